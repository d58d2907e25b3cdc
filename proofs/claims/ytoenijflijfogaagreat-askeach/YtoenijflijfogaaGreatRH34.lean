/- XB XA2 XM RM1x RO1, joined. -/
import Derived.Test.YtoenijflijfogaaGreatRH1
import Derived.Test.YtoenijflijfogaaGreatRH3
import Derived.Test.YtoenijflijfogaaGreatRH22
import Derived.Test.YtoenijflijfogaaGreatRH33
import Derived.BigQuiet
import Derived.Deep.QuietTactic
/- A box of a number, and worlds that were drawn from. -/
namespace Go.Proofs.YtoenijflijfogaaGreat
open Go.RowKit

/-- A box of a number. -/
def NBox (x : Int) (b : Nat) (w : World) : Prop := b < w.heap.size ∧ w.cell? ⟨b, 0, none⟩ = some (.int .i64 (hi x)) ∧ w.cell? ⟨b, 1, none⟩ = some (.int .u64 (lo x))
theorem NBox.below {x : Int} {b : Nat} {w1 w2 : World} (h : NBox x b w1) (hb : Below w1.heap.size w1 w2) : NBox x b w2 := by
  obtain ⟨h0, h1, h2⟩ := h
  have := hb.size
  exact ⟨by omega, (hb.cell (p := ⟨b, 0, none⟩) h0).trans h1, (hb.cell (p := ⟨b, 1, none⟩) h0).trans h2⟩
theorem bel_dN {n : Nat} {w1 w2 : World} (h : Below n w1 w2) (k : Nat) : Below n w1 (w2.drewN k) := h.trans ⟨rfl, rfl, rfl, Nat.le_refl _, fun _ _ => rfl⟩
end Go.Proofs.YtoenijflijfogaaGreat

/- The contract of the reference's Add. -/
namespace Go.Proofs.YtoenijflijfogaaGreat
open Go.RowKit

set_option maxRecDepth 100000 in
set_option maxHeartbeats 1000000 in
theorem refAdd_any (x y : Int) (w : World) :
    Calls Tryz.prog 55 #[wv x, wv y] w fun e w' => e = .returned (wv (x + y)) ∧ Below w.heap.size w w' := by
  unfold wv
  go_enter Tryz.func55, Tryz.ntmps55
  go_wp2_with fail
  have HB0 : Hid (Below w.heap.size w (((w.alloc (.cells #[.int .i64 (hi x), .int .u64 (lo x)] 34)).alloc (.cells #[.int .i64 (hi y), .int .u64 (lo y)] 34)).alloc (.cells #[.int .i64 0, .int .u64 0] 34))) := (((Below.refl _ _).alloc (by simp) _).alloc (by simp) _).alloc (by simp; omega) _
  have HX0 : Hid (NBox x w.heap.size (((w.alloc (.cells #[.int .i64 (hi x), .int .u64 (lo x)] 34)).alloc (.cells #[.int .i64 (hi y), .int .u64 (lo y)] 34)).alloc (.cells #[.int .i64 0, .int .u64 0] 34))) := ⟨by simp; omega, by simp [go_sem, World.cell?_alloc_past], by simp [go_sem, World.cell?_alloc_past]⟩
  have HY0 : Hid (NBox y (w.heap.size + 1) (((w.alloc (.cells #[.int .i64 (hi x), .int .u64 (lo x)] 34)).alloc (.cells #[.int .i64 (hi y), .int .u64 (lo y)] 34)).alloc (.cells #[.int .i64 0, .int .u64 0] 34))) := ⟨by simp, by simp [go_sem, World.cell?_alloc_past], by simp [go_sem, World.cell?_alloc_past]⟩
  have HR0 : Hid ((((w.alloc (.cells #[.int .i64 (hi x), .int .u64 (lo x)] 34)).alloc (.cells #[.int .i64 (hi y), .int .u64 (lo y)] 34)).alloc (.cells #[.int .i64 0, .int .u64 0] 34)).heap[w.heap.size + 1 + 1]? = some (.cells #[.int .i64 0, .int .u64 0] 34)) := by
    have h9 := heap_alloc_new ((w.alloc (.cells #[.int .i64 (hi x), .int .u64 (lo x)] 34)).alloc (.cells #[.int .i64 (hi y), .int .u64 (lo y)] 34)) (.cells #[.int .i64 0, .int .u64 0] 34)
    rw [World.size_alloc, World.size_alloc] at h9
    exact h9
  generalize ((w.alloc (.cells #[.int .i64 (hi x), .int .u64 (lo x)] 34)).alloc (.cells #[.int .i64 (hi y), .int .u64 (lo y)] 34)).alloc (.cells #[.int .i64 0, .int .u64 0] 34) = w0 at *
  refine region_inv2 (by kernel_rfl) [10, 11, 12, 13, 5, 6] [4, 5] (dV x y w0.heap.size) (fun j o ho g g' w' hj hd hv => dV.loc hj (fun e => ?l6) (fun e => ?l7) hv) (fun j hj g w' h => dV.box hj h) (by kernel_rfl) (by kernel_rfl) ?steps ?done
  case l6 =>
    subst e
    obtain rfl := Option.some.inj ho
    exact hd 4 (of_decide_eq_true (by kernel_rfl))
  case l7 =>
    subst e
    obtain rfl := Option.some.inj ho
    exact hd 5 (of_decide_eq_true (by kernel_rfl))
  case steps =>
    show AllS2 _ _ _ _ _ _ _ _ [0, 1, 2, 3, 4, 5, 6, 7]
    refine AllS2.cons (o := _) (ds := []) rfl (by kernel_rfl) ?_ ?_
    · intro f w1 K HB hd hA hK
      clear hd hA
      generalize hF : frF _ _ f = A at hK ⊢
      simp only [List.getElem_toArray, List.getElem_cons_zero] at hK ⊢
      have e2 : A.tmps[2]?.getD undef = .pointer (some ⟨w.heap.size, 0, none⟩) := by rw [← hF]; rfl
      clear hF
      obtain ⟨j0, j1, j2⟩ := HX0.out.below HB.out
      have hK2 := hK.out (wv x) w1 (Below.refl _ _) (fun _ h => h) (fun g' h _ => h) (fun h => absurd h (by decide))
      unfold wv at hK2
      clear hK
      go_simp
      exact hK2
    refine AllS2.cons (o := _) (ds := [0]) rfl (by kernel_rfl) ?_ ?_
    · intro f w1 K HB hd hA hK
      have hx : f 10 = wv x := hd 0 (by simp)
      clear hd hA
      generalize hF : frF _ _ f = A at hK ⊢
      simp only [List.getElem_toArray, List.getElem_cons_succ, List.getElem_cons_zero] at hK ⊢
      have ex : A.tmps[10]?.getD undef = f 10 := by rw [← hF]; rfl
      rw [hx] at ex
      clear hF hx
      have HN : Hid (w0.heap.size ≤ w1.heap.size) := HB.out.size
      go_simp
      refine (digits_dv x _).mono ?_
      rintro e w2 ⟨rfl, hb2⟩
      have hK2 := hK.out (dv x) w2 (hb2.mono HN.out) (fun _ h => dV.below hb2 h) (fun g' h _ => h) (fun h => absurd h (by decide))
      clear hK hb2
      go_simp
      exact hK2
    refine AllS2.cons (o := _) (ds := []) rfl (by kernel_rfl) ?_ ?_
    · intro f w1 K HB hd hA hK
      clear hd hA
      generalize hF : frF _ _ f = A at hK ⊢
      simp only [List.getElem_toArray, List.getElem_cons_succ, List.getElem_cons_zero] at hK ⊢
      have e3 : A.tmps[3]?.getD undef = .pointer (some ⟨(w.heap.size + 1), 0, none⟩) := by rw [← hF]; rfl
      clear hF
      obtain ⟨j0, j1, j2⟩ := HY0.out.below HB.out
      have hK2 := hK.out (wv y) w1 (Below.refl _ _) (fun _ h => h) (fun g' h _ => h) (fun h => absurd h (by decide))
      unfold wv at hK2
      clear hK
      go_simp
      exact hK2
    refine AllS2.cons (o := _) (ds := [2, 1]) rfl (by kernel_rfl) ?_ ?_
    · intro f w1 K HB hd hA hK
      have hx : f 12 = wv y := hd 2 (by simp)
      clear hd hA
      generalize hF : frF _ _ f = A at hK ⊢
      simp only [List.getElem_toArray, List.getElem_cons_succ, List.getElem_cons_zero] at hK ⊢
      have ex : A.tmps[12]?.getD undef = f 12 := by rw [← hF]; rfl
      rw [hx] at ex
      clear hF hx
      have HN : Hid (w0.heap.size ≤ w1.heap.size) := HB.out.size
      go_simp
      refine (digits_dv y _).mono ?_
      rintro e w2 ⟨rfl, hb2⟩
      have hK2 := hK.out (dv y) w2 (hb2.mono HN.out) (fun _ h => dV.below hb2 h) (fun g' h _ => h) (fun h => absurd h (by decide))
      clear hK hb2
      go_simp
      exact hK2
    refine AllS2.cons (o := _) (ds := []) rfl (by kernel_rfl) ?_ ?_
    · intro f w1 K HB hd hA hK
      clear hd hA
      generalize hF : frF _ _ f = A at hK ⊢
      simp only [List.getElem_toArray, List.getElem_cons_succ, List.getElem_cons_zero] at hK ⊢
      clear hF
      have hn : w0.heap.size ≤ w1.heap.size := HB.out.size
      have hb2 := (Below.refl w1.heap.size w1).alloc (Nat.le_refl _) (.cells #[.int .i64 0, .int .i64 0, .int .i64 0, .int .i64 0, .int .i64 0, .int .i64 0, .int .i64 0, .int .i64 0, .int .i64 0, .int .i64 0, .int .i64 0, .int .i64 0, .int .i64 0, .int .i64 0, .int .i64 0, .int .i64 0] 121)
      have hK2 := hK.out (.pointer (some ⟨w1.heap.size, 0, none⟩)) _ (hb2.mono hn) (fun _ h => dV.below hb2 h) (fun g' h _ => ⟨w1.heap.size, h, hn, by simp, _, _, heap_alloc_new _ _, rfl⟩) (fun _ => rfl)
      clear hK hb2
      go_simp
      exact hK2
    refine AllS2.cons (o := _) (ds := []) rfl (by kernel_rfl) ?_ ?_
    · intro f w1 K HB hd hA hK
      clear hd hA
      generalize hF : frF _ _ f = A at hK ⊢
      simp only [List.getElem_toArray, List.getElem_cons_succ, List.getElem_cons_zero] at hK ⊢
      clear hF
      have hn : w0.heap.size ≤ w1.heap.size := HB.out.size
      have hb2 := (Below.refl w1.heap.size w1).alloc (Nat.le_refl _) (.cells #[.int .i64 0, .int .i64 0, .int .i64 0, .int .i64 0, .int .i64 0, .int .i64 0, .int .i64 0, .int .i64 0, .int .i64 0, .int .i64 0, .int .i64 0, .int .i64 0, .int .i64 0, .int .i64 0, .int .i64 0, .int .i64 0] 121)
      have hK2 := hK.out (.pointer (some ⟨w1.heap.size, 0, none⟩)) _ (hb2.mono hn) (fun _ h => dV.below hb2 h) (fun g' h _ => ⟨w1.heap.size, h, hn, by simp, _, _, heap_alloc_new _ _, rfl⟩) (fun _ => rfl)
      clear hK hb2
      go_simp
      exact hK2
    refine AllS2.cons (o := _) (ds := [4, 1, 3, 0, 1, 4, 5]) rfl (by kernel_rfl) ?_ ?_
    · intro f w1 K HB hd hA hK
      have hx : Bd w0.heap.size (f 5) w1 := hd 4 (by simp)
      have hv : f 11 = dv x := hd 1 (by simp)
      have hne : f 6 ≠ f 5 := hA.out 5 (by simp) 4 (by simp) (by simp) (by simp) (by decide)
      clear hd hA
      obtain ⟨g, hg, hn, hgs, cs, T, hh, hcs⟩ := hx
      generalize hF : frF _ _ f = A at hK ⊢
      simp only [List.getElem_toArray, List.getElem_cons_succ, List.getElem_cons_zero] at hK ⊢
      have ex : A.tmps[5]?.getD undef = f 5 := by rw [← hF]; rfl
      have ey : A.tmps[11]?.getD undef = f 11 := by rw [← hF]; rfl
      rw [hg] at ex
      rw [hv] at ey
      clear hF hv
      refine Eq.mpr (if_pos (c := Region.wanted _ _ = true) rfl) ?_
      refine wp_storeN _ _ _ rfl g 0 (dvL x) (by simpa [go_sem] using ex) (by unfold dv at ey; simpa [go_sem] using ey) cs T hh (by rw [dvL_len, hcs]; decide) (by rw [dvL_len]; kernel_rfl) (by kernel_rfl) (fun W hW => ?_)
      have hF2 := Fd.mk (x := x) hn hgs hW
      refine hK.out undef W (hW.b _ hn) (fun j h => dV.store hW hcs (fun h1 => ?_) (fun h1 => ?_) h) (fun g' _ h2 => ?_) (fun h => absurd h (by decide))
      · show Fd _ _ (f 5) W; rw [hg]; exact hF2
      · exact Fd.store (v := f 6) h1 (by rw [← hg]; exact hne) hW
      · have h3 : g' 4 = f 5 := h2 4 (by simp)
        show Fd _ _ (g' 4) W
        rw [h3, hg]; exact hF2
    refine AllS2.cons (o := _) (ds := [5, 3, 6, 0, 1, 2, 3, 4, 5, 6]) rfl (by kernel_rfl) ?_ ?_
    · intro f w1 K HB hd hA hK
      have hx : Bd w0.heap.size (f 6) w1 := hd 5 (by simp)
      have hv : f 13 = dv y := hd 3 (by simp)
      have hne : f 5 ≠ f 6 := hA.out 4 (by simp) 5 (by simp) (by simp) (by simp) (by decide)
      clear hd hA
      obtain ⟨g, hg, hn, hgs, cs, T, hh, hcs⟩ := hx
      generalize hF : frF _ _ f = A at hK ⊢
      simp only [List.getElem_toArray, List.getElem_cons_succ, List.getElem_cons_zero] at hK ⊢
      have ex : A.tmps[6]?.getD undef = f 6 := by rw [← hF]; rfl
      have ey : A.tmps[13]?.getD undef = f 13 := by rw [← hF]; rfl
      rw [hg] at ex
      rw [hv] at ey
      clear hF hv
      refine Eq.mpr (if_pos (c := Region.wanted _ _ = true) rfl) ?_
      refine wp_storeN _ _ _ rfl g 0 (dvL y) (by simpa [go_sem] using ex) (by unfold dv at ey; simpa [go_sem] using ey) cs T hh (by rw [dvL_len, hcs]; decide) (by rw [dvL_len]; kernel_rfl) (by kernel_rfl) (fun W hW => ?_)
      have hF2 := Fd.mk (x := y) hn hgs hW
      refine hK.out undef W (hW.b _ hn) (fun j h => dV.store hW hcs (fun h1 => ?_) (fun h1 => ?_) h) (fun g' _ h2 => ?_) (fun h => absurd h (by decide))
      · exact Fd.store (v := f 5) h1 (by rw [← hg]; exact hne) hW
      · show Fd _ _ (f 6) W; rw [hg]; exact hF2
      · have h3 : g' 5 = f 6 := h2 5 (by simp)
        show Fd _ _ (g' 5) W
        rw [h3, hg]; exact hF2
    exact AllS2.nil
  case done =>
    intro f w1 hB hd hap
    have h6 : Fd w0.heap.size x (f 5) w1 := hd 6 (by decide)
    have h7 : Fd w0.heap.size y (f 6) w1 := hd 7 (by decide)
    have hne : f 5 ≠ f 6 := hap 4 (by simp) 5 (by simp) (by decide) (by decide) (by decide)
    obtain ⟨gx, hgx, nx, dx⟩ := h6
    obtain ⟨gy, hgy, ny, dy⟩ := h7
    have hxy : gx ≠ gy := fun e => hne (by rw [hgx, hgy, e])
    have hrl : w.heap.size + 1 + 1 < w0.heap.size := by
      rcases Nat.lt_or_ge (w.heap.size + 1 + 1) w0.heap.size with h | h
      · exact h
      · have h9 := HR0.out
        rw [Array.getElem?_eq_none h] at h9; cases h9
    have HB1 : Hid (Below w.heap.size w w1) := HB0.out.trans (hB.mono HB0.out.size)
    have HR1 : Hid (w1.heap[w.heap.size + 1 + 1]? = some (.cells #[.int .i64 0, .int .u64 0] 34)) := (hB.block _ hrl).trans HR0.out
    have DX : Hid (DArr w1 gx (dF x)) := dx
    have DY : Hid (DArr w1 gy (dF y)) := dy
    have NX : Hid (w.heap.size + 1 + 1 < gx) := by unfold Hid; omega
    have NE : Hid (gx ≠ gy) := hxy
    clear hd hap hB dx dy nx ny hne hxy hrl
    simp only [frF, tmOf, List.contains_cons, List.contains_nil, Nat.reduceAdd, Nat.zero_add, Nat.reduceBEq, Bool.or_false, Bool.false_or, cond_true, cond_false]
    rw [hgx, hgy]
    clear hgx hgy HX0 HY0 HB0 HR0
    generalize f 10 = f10, f 11 = f11, f 12 = f12, f 13 = f13
    clear f w0
    go_wp2_with fail
    go_loopw [7, 8, 9] (fun c i _ wr => ∃ k : Nat, k ≤ 16 ∧ i = .int .i64 (k : Int) ∧ c = .int .i64 (cyF x y k) ∧ DArr wr gx (fun j => if j < k then dF (x + y) j else dF x j) ∧ DArr wr gy (dF y) ∧ wr.heap[w.heap.size + 1 + 1]? = some (.cells #[.int .i64 0, .int .u64 0] 34) ∧ Below w.heap.size w wr) (fun _ i _ _ => 16 - (intOf i).toNat)
    case atStart => exact ⟨0, by omega, rfl, by rw [cy_zero], DX.out.congr (fun j hj => by simp), DY.out, HR1.out, HB1.out⟩
    case round =>
      obtain ⟨k, hk, rfl, rfl, hd, hy, hr, hbr⟩ := hrel
      by_cases hlt : k < 16
      · have c1 : wr.cell? ⟨gx, k, none⟩ = some (.int .i64 (dF x k)) := (hd.2.1 k hlt).trans (by show some (Value.int .i64 (if k < k then _ else _)) = _; rw [if_neg (Nat.lt_irrefl k)])
        have c2 := hy.2.1 k hlt
        have f1 := hd.2.2 k
        have k0 : (0 : Int) ≤ (k : Int) := by omega
        have k16 : (k : Int) < 16 := by omega
        obtain ⟨d0, d1⟩ := dF_bds x k
        obtain ⟨e0, e1⟩ := dF_bds y k
        obtain ⟨y0, y1⟩ := cy_bd x y k hk
        have HQ : Hid _ := cy_quo x y k hlt
        have HD : Hid (∀ nq, DArr (((wr.drewN nq)).setCell ⟨gx, k, none⟩ (.int .i64 (dF (x + y) k))) gx (fun j => if j < k + 1 then dF (x + y) j else dF x j) ∧ DArr (((wr.drewN nq)).setCell ⟨gx, k, none⟩ (.int .i64 (dF (x + y) k))) gy (dF y) ∧ (((wr.drewN nq)).setCell ⟨gx, k, none⟩ (.int .i64 (dF (x + y) k))).heap[w.heap.size + 1 + 1]? = some (.cells #[.int .i64 0, .int .u64 0] 34) ∧ Below w.heap.size w (((wr.drewN nq)).setCell ⟨gx, k, none⟩ (.int .i64 (dF (x + y) k)))) := fun nq => by
          have hd' : DArr (wr.drewN nq) gx (fun j => if j < k then dF (x + y) j else dF x j) := hd
          have hy' : DArr (wr.drewN nq) gy (dF y) := hy
          have nx := NX.out
          refine ⟨(hd'.set k hlt _).congr (fun j hj => ?_), hy'.far NE.out, (Below.heap_setCell _ _ _ _ (by show w.heap.size + 1 + 1 ≠ gx; omega)).trans hr, (bel_dN hbr nq).setCell (by show w.heap.size ≤ gx; omega) _⟩
          by_cases e : j = k
          · subst e; rw [if_pos rfl, if_pos (by omega)]
          · rw [if_neg e]
            by_cases e2 : j < k
            · rw [if_pos e2, if_pos (by omega)]
            · rw [if_neg e2, if_neg (by omega)]
        have HE : Hid _ := cy_rem x y k hlt
        have HW : Hid (wrap64 (cyF x y (k + 1)) = cyF x y (k + 1)) := by
          have h9 := cy_bd x y (k + 1) (by omega)
          unfold Hid wrap64; omega
        generalize hA : dF x k = A at *
        generalize hB : dF y k = B at *
        generalize hC : cyF x y k = C at *
        have t1 : Int.tmod (A + B + C) 256 = dF (x + y) k := by rw [Int.tmod_eq_emod_of_nonneg (by omega), HE.out]
        have t2 : Int.tdiv (A + B + C) 256 = cyF x y (k + 1) := by rw [Int.tdiv_eq_ediv_of_nonneg (by omega), HQ.out]
        have w1 : IntKind.i64.wrap (A + B) = A + B := by rw [IntKind.wrap_i64]; omega
        have w2 : IntKind.i64.wrap (A + B + C) = A + B + C := by rw [IntKind.wrap_i64]; omega
        have hsz := hbr.size
        clear hd hy hr hbr hA hB hC HE HQ
        go_wp2_with fail
        go_quiet (fail)
        go_wp2_with fail
        go_roundw
        case rel => 
          obtain ⟨z1, z2, z3, z4⟩ := HD.out _
          exact ⟨k + 1, by omega, by go_num, by rw [HW.out], z1, z2, z3, z4⟩
        case measure => simp [intOf]; omega
      · have hke : k = 16 := by omega
        subst hke
        have hd := hd.congr (g := dF (x + y)) (fun j hj => by rw [if_pos hj])
        have HR : Hid _ := hr
        have HB : Hid _ := hbr
        have hgs := hd.1
        have c0 : wr.cell? ⟨gx, 0, none⟩ = some (.int .i64 (dF (x + y) 0)) := hd.2.1 0 (by decide)
        have c1 : wr.cell? ⟨gx, 1, none⟩ = some (.int .i64 (dF (x + y) 1)) := hd.2.1 1 (by decide)
        have c2 : wr.cell? ⟨gx, 2, none⟩ = some (.int .i64 (dF (x + y) 2)) := hd.2.1 2 (by decide)
        have c3 : wr.cell? ⟨gx, 3, none⟩ = some (.int .i64 (dF (x + y) 3)) := hd.2.1 3 (by decide)
        have c4 : wr.cell? ⟨gx, 4, none⟩ = some (.int .i64 (dF (x + y) 4)) := hd.2.1 4 (by decide)
        have c5 : wr.cell? ⟨gx, 5, none⟩ = some (.int .i64 (dF (x + y) 5)) := hd.2.1 5 (by decide)
        have c6 : wr.cell? ⟨gx, 6, none⟩ = some (.int .i64 (dF (x + y) 6)) := hd.2.1 6 (by decide)
        have c7 : wr.cell? ⟨gx, 7, none⟩ = some (.int .i64 (dF (x + y) 7)) := hd.2.1 7 (by decide)
        have c8 : wr.cell? ⟨gx, 8, none⟩ = some (.int .i64 (dF (x + y) 8)) := hd.2.1 8 (by decide)
        have c9 : wr.cell? ⟨gx, 9, none⟩ = some (.int .i64 (dF (x + y) 9)) := hd.2.1 9 (by decide)
        have c10 : wr.cell? ⟨gx, 10, none⟩ = some (.int .i64 (dF (x + y) 10)) := hd.2.1 10 (by decide)
        have c11 : wr.cell? ⟨gx, 11, none⟩ = some (.int .i64 (dF (x + y) 11)) := hd.2.1 11 (by decide)
        have c12 : wr.cell? ⟨gx, 12, none⟩ = some (.int .i64 (dF (x + y) 12)) := hd.2.1 12 (by decide)
        have c13 : wr.cell? ⟨gx, 13, none⟩ = some (.int .i64 (dF (x + y) 13)) := hd.2.1 13 (by decide)
        have c14 : wr.cell? ⟨gx, 14, none⟩ = some (.int .i64 (dF (x + y) 14)) := hd.2.1 14 (by decide)
        have c15 : wr.cell? ⟨gx, 15, none⟩ = some (.int .i64 (dF (x + y) 15)) := hd.2.1 15 (by decide)
        clear hd hy hr hbr
        go_wp2_with fail
        refine (from_N (x + y) _).mono ?_
        rintro e w5 ⟨rfl, hb5⟩
        have nx := NX.out
        have hr5 := (hb5.block (w.heap.size + 1 + 1) (by omega)).trans HR.out
        have HB5 : Hid (Below w.heap.size w w5) := HB.out.trans (hb5.mono HB.out.size)
        clear hb5
        unfold wv
        have r0 : w5.cell? ⟨w.heap.size + 1 + 1, 0, none⟩ = some (.int .i64 0) := by simp [World.cell?, hr5]
        have r1 : w5.cell? ⟨w.heap.size + 1 + 1, 1, none⟩ = some (.int .u64 0) := by simp [World.cell?, hr5]
        have r2 : ∀ o, w5.frozen? ⟨w.heap.size + 1 + 1, o, none⟩ = false := fun o => by simp [World.frozen?, hr5]
        go_wp2_with fail
        have s0 := World.cell?_setCell_same w5 ⟨w.heap.size + 1 + 1, 0, none⟩ (.int .i64 (hi (x + y))) r0
        have s1 : ((w5.setCell ⟨w.heap.size + 1 + 1, 0, none⟩ (.int .i64 (hi (x + y)))).setCell ⟨w.heap.size + 1 + 1, 1, none⟩ (.int .u64 (lo (x + y)))).cell? ⟨w.heap.size + 1 + 1, 0, none⟩ = some (.int .i64 (hi (x + y))) := by
          rw [World.cell?_setCell_other (h := by simp)]; exact s0
        have s2 : ((w5.setCell ⟨w.heap.size + 1 + 1, 0, none⟩ (.int .i64 (hi (x + y)))).setCell ⟨w.heap.size + 1 + 1, 1, none⟩ (.int .u64 (lo (x + y)))).cell? ⟨w.heap.size + 1 + 1, 1, none⟩ = some (.int .u64 (lo (x + y))) := by
          have q1 : (w5.setCell ⟨w.heap.size + 1 + 1, 0, none⟩ (.int .i64 (hi (x + y)))).cell? ⟨w.heap.size + 1 + 1, 1, none⟩ = some (.int .u64 0) := by
            rw [World.cell?_setCell_other (h := by simp)]; exact r1
          exact World.cell?_setCell_same _ _ _ q1
        refine bodyPost_ret (v := .agg #[.int .i64 (hi (x + y)), .int .u64 (lo (x + y))]) (by simp [results, Tryz.results55, go_sem, s1, s2]) rfl ⟨rfl, (HB5.out.setCell (by show w.heap.size ≤ w.heap.size + 1 + 1; omega) _).setCell (by show w.heap.size ≤ w.heap.size + 1 + 1; omega) _⟩
end Go.Proofs.YtoenijflijfogaaGreat

/- The contracts of the reference's Of, Minus, Times. -/
namespace Go.Proofs.YtoenijflijfogaaGreat
open Go.RowKit

/-- A number's box that can be written. -/
def Nb (x : Int) (b : Nat) (w : World) : Prop := b < w.heap.size ∧ w.cell? ⟨b, 0, none⟩ = some (.int .i64 (hi x)) ∧ w.cell? ⟨b, 1, none⟩ = some (.int .u64 (lo x)) ∧ ∀ o, w.frozen? ⟨b, o, none⟩ = false
theorem Nb.below {x : Int} {b : Nat} {w1 w2 : World} (h : Nb x b w1) (hb : Below w1.heap.size w1 w2) : Nb x b w2 := by
  obtain ⟨h0, h1, h2, h3⟩ := h
  have := hb.size
  exact ⟨by omega, (hb.cell (p := ⟨b, 0, none⟩) h0).trans h1, (hb.cell (p := ⟨b, 1, none⟩) h0).trans h2, fun o => (hb.frozen (p := ⟨b, o, none⟩) h0).trans (h3 o)⟩
theorem Nb.far {x : Int} {b b' i : Nat} {u : Value} {w : World} (h : Nb x b w) (hne : b' ≠ b) : Nb x b (w.setCell ⟨b', i, none⟩ u) := by
  obtain ⟨h0, h1, h2, h3⟩ := h
  refine ⟨by simp [World.setCell]; exact h0, ?_, ?_, fun o => by rw [World.frozen?_setCell]; exact h3 o⟩
  · rw [World.cell?_setCell_other (h := by intro e; injection e with e1 _; exact hne e1)]; exact h1
  · rw [World.cell?_setCell_other (h := by intro e; injection e with e1 _; exact hne e1)]; exact h2
theorem Nb.set {x y : Int} {b : Nat} {w : World} (h : Nb x b w) : Nb y b ((w.setCell ⟨b, 0, none⟩ (.int .i64 (hi y))).setCell ⟨b, 1, none⟩ (.int .u64 (lo y))) := by
  obtain ⟨h0, h1, h2, h3⟩ := h
  refine ⟨by simp [World.setCell]; exact h0, ?_, ?_, fun o => by rw [World.frozen?_setCell, World.frozen?_setCell]; exact h3 o⟩
  · rw [World.cell?_setCell_other (h := by simp)]; exact World.cell?_setCell_same _ _ _ h1
  · have q : (w.setCell ⟨b, 0, none⟩ (.int .i64 (hi y))).cell? ⟨b, 1, none⟩ = some (.int .u64 (lo x)) := by
      rw [World.cell?_setCell_other (h := by simp)]; exact h2
    exact World.cell?_setCell_same _ _ _ q
set_option maxHeartbeats 1000000 in
theorem refOf_any (v : Int) (h1 : -9223372036854775808 ≤ v) (h2 : v ≤ 9223372036854775807) (w : World) :
    Calls Tryz.prog 61 #[.int .i64 v] w fun e w' => e = .returned (wv v) ∧ Below w.heap.size w w' := by
  have EL : Hid (IntKind.u64.wrap v = lo v) := by unfold Hid lo; rw [IntKind.wrap_u64]
  by_cases hv : v < 0
  · have EH : Hid (hi v = -1) := by unfold Hid hi; omega
    have b1 : decide (v < 0) = true := by simpa using hv
    clear hv h1 h2
    go_enter Tryz.func61, Tryz.ntmps61
    go_wp2_with fail
    refine bodyPost_ret (v := .agg #[.int .i64 (-1), .int .u64 (IntKind.u64.wrap v)]) (by simp [results, Tryz.results61, go_sem]) rfl ⟨by unfold wv; rw [EL.out, EH.out], ?_⟩
    exact ((Below.refl _ _).alloc (by simp) _).alloc (by simp) _
  · have EH : Hid (hi v = 0) := by unfold Hid hi; omega
    have b1 : decide (v < 0) = false := by simpa using hv
    clear hv h1 h2
    go_enter Tryz.func61, Tryz.ntmps61
    go_wp2_with fail
    refine bodyPost_ret (v := .agg #[.int .i64 0, .int .u64 (IntKind.u64.wrap v)]) (by simp [results, Tryz.results61, go_sem]) rfl ⟨by unfold wv; rw [EL.out, EH.out], ?_⟩
    exact ((Below.refl _ _).alloc (by simp) _).alloc (by simp) _
end Go.Proofs.YtoenijflijfogaaGreat

/- The contract of the reference's Merge of what is known (written by mkrm1.py). -/
namespace Go.Proofs.YtoenijflijfogaaGreat
open Go.RowKit
theorem set6' {w : World} {b : Nat} {T : TypeId} {x0 x1 x2 x3 x4 x5 : Value} (h : w.heap[b]? = some (.cells #[x0, x1, x2, x3, x4, x5] T)) (v0 v1 v2 v3 v4 v5 : Value) :
    ((((((w.setCell ⟨b, 0, none⟩ v0).setCell ⟨b, 1, none⟩ v1).setCell ⟨b, 2, none⟩ v2).setCell ⟨b, 3, none⟩ v3).setCell ⟨b, 4, none⟩ v4).setCell ⟨b, 5, none⟩ v5).heap[b]? = some (.cells #[v0, v1, v2, v3, v4, v5] T) := by
  have h0 := Go.heap_setCell_same w b 0 _ _ v0 h
  have h1 := Go.heap_setCell_same _ b 1 _ _ v1 h0
  have h2 := Go.heap_setCell_same _ b 2 _ _ v2 h1
  have h3 := Go.heap_setCell_same _ b 3 _ _ v3 h2
  have h4 := Go.heap_setCell_same _ b 4 _ _ v4 h3
  have h5 := Go.heap_setCell_same _ b 5 _ _ v5 h4
  simpa using h5
theorem below6' {w0 w : World} {n b : Nat} (h : Below n w0 w) (hb : n ≤ b) (v0 v1 v2 v3 v4 v5 : Value) :
    Below n w0 ((((((w.setCell ⟨b, 0, none⟩ v0).setCell ⟨b, 1, none⟩ v1).setCell ⟨b, 2, none⟩ v2).setCell ⟨b, 3, none⟩ v3).setCell ⟨b, 4, none⟩ v4).setCell ⟨b, 5, none⟩ v5) := (((((h.setCell hb _).setCell hb _).setCell hb _).setCell hb _).setCell hb _).setCell hb _
theorem c_rw {w : World} {b : Nat} {cs : Array Value} {T : TypeId} (h : w.heap[b]? = some (.cells cs T)) (i : Nat) (hi : i < cs.size) : w.cell? ⟨b, i, none⟩ = some cs[i] := by
  simp [World.cell?, h, hi]
theorem f_rw {w : World} {b : Nat} {cs : Array Value} {T : TypeId} (h : w.heap[b]? = some (.cells cs T)) (i : Nat) : w.frozen? ⟨b, i, none⟩ = false := by
  simp [World.frozen?, h]
theorem res_r {fn : Func} {p : Tmp} {ty : TypeId} (h : fn.results = #[.cell p ty]) (tmps : Array Value) (w : World) (g : Nat) (cs : Array Value)
    (hp : tmps.getD p undef = .pointer (some ⟨g, 0, none⟩)) (hl : (loadVar ty ⟨g, 0, none⟩).run Tryz.prog w = .ok (.agg cs) w) :
    (results fn tmps).run Tryz.prog w = .ok (.agg cs) w := by
  have hp' : tmps[p]?.getD undef = .pointer (some ⟨g, 0, none⟩) := by simpa using hp
  simp [results, h, hp', asAddr, hl]

theorem heap_3 (w : World) (o1 o2 o3 : Obj) : (((w.alloc o1).alloc o2).alloc o3).heap[w.heap.size]? = some o1 ∧ (((w.alloc o1).alloc o2).alloc o3).heap[w.heap.size + 1]? = some o2 ∧ (((w.alloc o1).alloc o2).alloc o3).heap[w.heap.size + 2]? = some o3 := by
  have h1 := heap_alloc_new w o1
  have h2 := heap_alloc_new (w.alloc o1) o2
  have h3 := heap_alloc_new ((w.alloc o1).alloc o2) o3
  rw [World.size_alloc] at h2
  rw [World.size_alloc, World.size_alloc] at h3
  refine ⟨?_, ?_, h3⟩
  · rw [Below.heap_alloc _ _ _ (by simp; omega), Below.heap_alloc _ _ _ (by simp)]; exact h1
  · rw [Below.heap_alloc _ _ _ (by simp)]; exact h2
set_option maxRecDepth 100000 in
set_option maxHeartbeats 1000000 in
theorem refMerge_left (a b : Ag) (h : a.c = 0) (w : World) :
    Calls Tryz.prog 29 #[.agg #[.int .u64 a.c, .bool a.o, .int .i64 (hi a.s), .int .u64 (lo a.s), .int .i64 a.mn, .int .i64 a.mx], .agg #[.int .u64 b.c, .bool b.o, .int .i64 (hi b.s), .int .u64 (lo b.s), .int .i64 b.mn, .int .i64 b.mx]] w fun e w' => e = .returned (.agg #[.int .u64 (mrg a b).c, .bool (mrg a b).o, .int .i64 (hi (mrg a b).s), .int .u64 (lo (mrg a b).s), .int .i64 (mrg a b).mn, .int .i64 (mrg a b).mx]) ∧ Below w.heap.size w w' := by
  have e : mrg a b = b := by unfold mrg; rw [if_pos h]
  rw [e]
  have hb : (a.c == 0) = true := by simp [h]
  clear e h
  go_enter Tryz.func29, Tryz.ntmps29
  go_wp2_with fail
  refine bodyPost_ret (v := .agg #[.int .u64 b.c, .bool b.o, .int .i64 (hi b.s), .int .u64 (lo b.s), .int .i64 b.mn, .int .i64 b.mx]) (by simp [results, Tryz.results29, go_sem]) rfl ⟨rfl, ?_⟩
  repeat (first | exact Below.refl _ _ | refine Below.drew ?_ | refine Below.alloc ?_ (by first | (simp; done) | (simp; omega)) _)
set_option maxRecDepth 100000 in
set_option maxHeartbeats 1000000 in
theorem refMerge_right (a b : Ag) (h : a.c ≠ 0) (h2 : b.c = 0) (w : World) :
    Calls Tryz.prog 29 #[.agg #[.int .u64 a.c, .bool a.o, .int .i64 (hi a.s), .int .u64 (lo a.s), .int .i64 a.mn, .int .i64 a.mx], .agg #[.int .u64 b.c, .bool b.o, .int .i64 (hi b.s), .int .u64 (lo b.s), .int .i64 b.mn, .int .i64 b.mx]] w fun e w' => e = .returned (.agg #[.int .u64 (mrg a b).c, .bool (mrg a b).o, .int .i64 (hi (mrg a b).s), .int .u64 (lo (mrg a b).s), .int .i64 (mrg a b).mn, .int .i64 (mrg a b).mx]) ∧ Below w.heap.size w w' := by
  have e : mrg a b = a := by unfold mrg; rw [if_neg h, if_pos h2]
  rw [e]
  have hb : (a.c == 0) = false := by simp [h]
  have hb2 : (b.c == 0) = true := by simp [h2]
  clear e h h2
  go_enter Tryz.func29, Tryz.ntmps29
  go_wp2_with fail
  refine bodyPost_ret (v := .agg #[.int .u64 a.c, .bool a.o, .int .i64 (hi a.s), .int .u64 (lo a.s), .int .i64 a.mn, .int .i64 a.mx]) (by simp [results, Tryz.results29, go_sem]) rfl ⟨rfl, ?_⟩
  repeat (first | exact Below.refl _ _ | refine Below.drew ?_ | refine Below.alloc ?_ (by first | (simp; done) | (simp; omega)) _)
set_option maxRecDepth 100000 in
set_option maxHeartbeats 4000000 in
theorem refMerge_both (a b : Ag) (h : a.c ≠ 0) (h2 : b.c ≠ 0) (a1 : 0 ≤ a.c) (a2 : a.c < 18446744073709551616) (b1 : 0 ≤ b.c) (b2 : b.c < 18446744073709551616) (ao : a.o = true → a.c = 18446744073709551615) (bo : b.o = true → b.c = 18446744073709551615) (w : World) :
    Calls Tryz.prog 29 #[.agg #[.int .u64 a.c, .bool a.o, .int .i64 (hi a.s), .int .u64 (lo a.s), .int .i64 a.mn, .int .i64 a.mx], .agg #[.int .u64 b.c, .bool b.o, .int .i64 (hi b.s), .int .u64 (lo b.s), .int .i64 b.mn, .int .i64 b.mx]] w fun e w' => e = .returned (.agg #[.int .u64 (mrg a b).c, .bool (mrg a b).o, .int .i64 (hi (mrg a b).s), .int .u64 (lo (mrg a b).s), .int .i64 (mrg a b).mn, .int .i64 (mrg a b).mx]) ∧ Below w.heap.size w w' := by
  have hb : (a.c == 0) = false := by simp [h]
  have hb2 : (b.c == 0) = false := by simp [h2]
  have HAD : Hid (∀ W, Calls Tryz.prog 55 #[.agg #[.int .i64 (hi a.s), .int .u64 (lo a.s)], .agg #[.int .i64 (hi b.s), .int .u64 (lo b.s)]] W fun e w' => e = .returned (.agg #[.int .i64 (hi (a.s + b.s)), .int .u64 (lo (a.s + b.s))]) ∧ Below W.heap.size W w') := fun W => refAdd_any a.s b.s W
  go_enter Tryz.func29, Tryz.ntmps29
  go_wp2_with fail
  obtain ⟨w3, HW3⟩ := hid_ex (((w.alloc (.cells #[.int .u64 a.c, .bool a.o, .int .i64 (hi a.s), .int .u64 (lo a.s), .int .i64 a.mn, .int .i64 a.mx] 36)).alloc (.cells #[.int .u64 b.c, .bool b.o, .int .i64 (hi b.s), .int .u64 (lo b.s), .int .i64 b.mn, .int .i64 b.mx] 36)).alloc (.cells #[.int .u64 0, .bool false, .int .i64 0, .int .u64 0, .int .i64 0, .int .i64 0] 36))
  rw [← HW3.out]
  have HA : Hid (w3.heap[w.heap.size]? = some (.cells #[.int .u64 a.c, .bool a.o, .int .i64 (hi a.s), .int .u64 (lo a.s), .int .i64 a.mn, .int .i64 a.mx] 36)) := by rw [HW3.out]; exact (heap_3 w _ _ _).1
  have HB : Hid (w3.heap[w.heap.size + 1]? = some (.cells #[.int .u64 b.c, .bool b.o, .int .i64 (hi b.s), .int .u64 (lo b.s), .int .i64 b.mn, .int .i64 b.mx] 36)) := by rw [HW3.out]; exact (heap_3 w _ _ _).2.1
  have HR : Hid (w3.heap[w.heap.size + 2]? = some (.cells #[.int .u64 0, .bool false, .int .i64 0, .int .u64 0, .int .i64 0, .int .i64 0] 36)) := by rw [HW3.out]; exact (heap_3 w _ _ _).2.2
  have hz3 : w3.heap.size = w.heap.size + 3 := by rw [HW3.out]; simp
  have HB3 : Hid (Below w.heap.size w w3) := by rw [HW3.out]; exact (((Below.refl _ _).alloc (by simp) _).alloc (by simp) _).alloc (by simp; omega) _
  clear HW3
  have HCA : Hid (∀ W, Below w3.heap.size w3 W → W.heap[w.heap.size]? = some (.cells #[.int .u64 a.c, .bool a.o, .int .i64 (hi a.s), .int .u64 (lo a.s), .int .i64 a.mn, .int .i64 a.mx] 36) ∧ W.heap[w.heap.size + 1]? = some (.cells #[.int .u64 b.c, .bool b.o, .int .i64 (hi b.s), .int .u64 (lo b.s), .int .i64 b.mn, .int .i64 b.mx] 36) ∧ W.heap[w.heap.size + 2]? = some (.cells #[.int .u64 0, .bool false, .int .i64 0, .int .u64 0, .int .i64 0, .int .i64 0] 36)) := fun W hW => ⟨(hW.block _ (by omega)).trans HA.out, (hW.block _ (by omega)).trans HB.out, (hW.block _ (by omega)).trans HR.out⟩
  refine wp_region_noPanic ?_
  refine wp_region_held_drew (S := (fun w' => Below w3.heap.size w3 w')) (by kernel_rfl) ?_ (fun hHeld => ?_)
  · exact (Below.refl _ _).drew
  refine wpAnyH_take (i := 0) (v := .pointer (some ⟨w.heap.size, 2, none⟩)) rfl (by kernel_rfl) (by kernel_rfl) (by kernel_rfl) (fun _ _ _ h => h) (Or.inl ⟨by rfl, ?_⟩) (by assumption) ?_
  · (intro w1 hSw; (try dsimp only at hSw); go_simp)
  simp only [List.getElem_toArray, List.getElem_cons_zero, Act.put, List.setIfInBounds_toArray, List.set_cons_zero, List.set_cons_succ]
  refine wpAnyH_take (i := 1) (v := .agg #[.int .i64 (hi a.s), .int .u64 (lo a.s)]) rfl (by kernel_rfl) (by kernel_rfl) (by kernel_rfl) (fun _ _ _ h => h) (Or.inl ⟨by rfl, ?_⟩) (by assumption) ?_
  · (intro w1 hSw; (try dsimp only at hSw); have c2 := c_rw (HCA.out _ hSw).1 2 (by simp); have c3 := c_rw (HCA.out _ hSw).1 3 (by simp); simp only [List.getElem_toArray, List.getElem_cons_succ, List.getElem_cons_zero] at c2 c3; go_simp)
  simp only [List.getElem_toArray, List.getElem_cons_succ, List.getElem_cons_zero, Act.put, List.setIfInBounds_toArray, List.set_cons_zero, List.set_cons_succ]
  refine wpAnyH_take (i := 2) (v := .pointer (some ⟨w.heap.size + 1, 2, none⟩)) rfl (by kernel_rfl) (by kernel_rfl) (by kernel_rfl) (fun _ _ _ h => h) (Or.inl ⟨by rfl, ?_⟩) (by assumption) ?_
  · (intro w1 hSw; (try dsimp only at hSw); go_simp)
  simp only [List.getElem_toArray, List.getElem_cons_succ, List.getElem_cons_zero, Act.put, List.setIfInBounds_toArray, List.set_cons_zero, List.set_cons_succ]
  refine wpAnyH_take (i := 3) (v := .agg #[.int .i64 (hi b.s), .int .u64 (lo b.s)]) rfl (by kernel_rfl) (by kernel_rfl) (by kernel_rfl) (fun _ _ _ h => h) (Or.inl ⟨by rfl, ?_⟩) (by assumption) ?_
  · (intro w1 hSw; (try dsimp only at hSw); have c2 := c_rw (HCA.out _ hSw).2.1 2 (by simp); have c3 := c_rw (HCA.out _ hSw).2.1 3 (by simp); simp only [List.getElem_toArray, List.getElem_cons_succ, List.getElem_cons_zero] at c2 c3; go_simp)
  simp only [List.getElem_toArray, List.getElem_cons_succ, List.getElem_cons_zero, Act.put, List.setIfInBounds_toArray, List.set_cons_zero, List.set_cons_succ]
  refine wpAnyH_take (i := 5) (v := .pointer (some ⟨w.heap.size, 4, none⟩)) rfl (by kernel_rfl) (by kernel_rfl) (by kernel_rfl) (fun _ _ _ h => h) (Or.inl ⟨by rfl, ?_⟩) (by assumption) ?_
  · (intro w1 hSw; (try dsimp only at hSw); go_simp)
  simp only [List.getElem_toArray, List.getElem_cons_succ, List.getElem_cons_zero, Act.put, List.setIfInBounds_toArray, List.set_cons_zero, List.set_cons_succ]
  refine wpAnyH_take (i := 6) (v := .int .i64 a.mn) rfl (by kernel_rfl) (by kernel_rfl) (by kernel_rfl) (fun _ _ _ h => h) (Or.inl ⟨by rfl, ?_⟩) (by assumption) ?_
  · (intro w1 hSw; (try dsimp only at hSw); have c2 := c_rw (HCA.out _ hSw).1 4 (by simp); simp only [List.getElem_toArray, List.getElem_cons_succ, List.getElem_cons_zero] at c2; go_simp)
  simp only [List.getElem_toArray, List.getElem_cons_succ, List.getElem_cons_zero, Act.put, List.setIfInBounds_toArray, List.set_cons_zero, List.set_cons_succ]
  refine wpAnyH_take (i := 7) (v := .pointer (some ⟨w.heap.size, 5, none⟩)) rfl (by kernel_rfl) (by kernel_rfl) (by kernel_rfl) (fun _ _ _ h => h) (Or.inl ⟨by rfl, ?_⟩) (by assumption) ?_
  · (intro w1 hSw; (try dsimp only at hSw); go_simp)
  simp only [List.getElem_toArray, List.getElem_cons_succ, List.getElem_cons_zero, Act.put, List.setIfInBounds_toArray, List.set_cons_zero, List.set_cons_succ]
  refine wpAnyH_take (i := 8) (v := .int .i64 a.mx) rfl (by kernel_rfl) (by kernel_rfl) (by kernel_rfl) (fun _ _ _ h => h) (Or.inl ⟨by rfl, ?_⟩) (by assumption) ?_
  · (intro w1 hSw; (try dsimp only at hSw); have c2 := c_rw (HCA.out _ hSw).1 5 (by simp); simp only [List.getElem_toArray, List.getElem_cons_succ, List.getElem_cons_zero] at c2; go_simp)
  simp only [List.getElem_toArray, List.getElem_cons_succ, List.getElem_cons_zero, Act.put, List.setIfInBounds_toArray, List.set_cons_zero, List.set_cons_succ]
  refine wpAnyH_ready (rs := [4, 10]) (by kernel_rfl) (by simp) ?_
  refine AllReadyH.cons (o := _) rfl (fun K hK => ?_) (AllReadyH.cons (o := _) rfl (fun K hK => ?_) AllReadyH.nil)
  · go_simp
    refine (HAD.out _).mono ?_
    rintro e w4 ⟨rfl, hb4'⟩
    have hb4 : Below w3.heap.size w3 w4 := (Below.refl w3.heap.size w3).drew.trans hb4'
    refine hK.out _ _ ?_ (fun hHeld => ?_)
    · exact hb4
    clear hK K
    refine wpAnyH_take (i := 9) (v := .agg #[.int .u64 0, .bool false, .int .i64 (hi (a.s + b.s)), .int .u64 (lo (a.s + b.s)), .int .i64 a.mn, .int .i64 a.mx]) rfl (by kernel_rfl) (by kernel_rfl) (by kernel_rfl) (fun _ _ _ h => h) (Or.inl ⟨by rfl, ?_⟩) (by assumption) ?_
    · (intro w1 hSw; (try dsimp only at hSw); go_simp)
    simp only [List.getElem_toArray, List.getElem_cons_succ, List.getElem_cons_zero, Act.put, List.setIfInBounds_toArray, List.set_cons_zero, List.set_cons_succ]
    refine wpAnyH_ready (rs := [10]) (by kernel_rfl) (by simp) ?_
    refine AllReadyH.cons (o := _) rfl (fun K hK => ?_) AllReadyH.nil
    go_simp
    obtain ⟨w5, HW5⟩ := hid_ex (w4.alloc (.cells #[.int .u64 0, .bool false, .int .i64 0, .int .u64 0, .int .i64 0, .int .i64 0] 36))
    rw [← HW5.out]
    have hb5 : Below w3.heap.size w3 w5 := by rw [HW5.out]; exact hb4.alloc hb4.size _
    have HX5 : Hid (w5.heap[w4.heap.size]? = some (.cells #[.int .u64 0, .bool false, .int .i64 0, .int .u64 0, .int .i64 0, .int .i64 0] 36)) := by rw [HW5.out]; exact heap_alloc_new w4 _
    have hx3 : w.heap.size + 3 ≤ w4.heap.size := by have := hb4.size; omega
    obtain ⟨x, hxe⟩ : ∃ x, x = w4.heap.size := ⟨_, rfl⟩
    rw [← hxe] at HX5 hx3 ⊢
    refine hK.out _ _ ?_ (fun hHeld => ?_)
    · exact hb5
    clear hK K
    clear HW5 hxe hb4 hb4'
    have q0 := c_rw HX5.out 0 (by simp)
    have q1 := c_rw HX5.out 1 (by simp)
    have q2 := c_rw HX5.out 2 (by simp)
    have q3 := c_rw HX5.out 3 (by simp)
    have q4 := c_rw HX5.out 4 (by simp)
    have q5 := c_rw HX5.out 5 (by simp)
    simp only [List.getElem_toArray, List.getElem_cons_succ, List.getElem_cons_zero] at q0 q1 q2 q3 q4 q5
    have g0 := f_rw HX5.out 0
    have g1 := f_rw HX5.out 1
    have g2 := f_rw HX5.out 2
    have g3 := f_rw HX5.out 3
    have g4 := f_rw HX5.out 4
    have g5 := f_rw HX5.out 5
    refine wpAnyH_ready (rs := [11]) (by kernel_rfl) (by simp) ?_
    refine AllReadyH.cons (o := _) rfl (fun K hK => ?_) AllReadyH.nil
    go_simp
    obtain ⟨w6, HW6⟩ := hid_ex ((((((w5.setCell ⟨x, 0, none⟩ (.int .u64 0)).setCell ⟨x, 1, none⟩ (.bool false)).setCell ⟨x, 2, none⟩ (.int .i64 (hi (a.s + b.s)))).setCell ⟨x, 3, none⟩ (.int .u64 (lo (a.s + b.s)))).setCell ⟨x, 4, none⟩ (.int .i64 a.mn)).setCell ⟨x, 5, none⟩ (.int .i64 a.mx))
    rw [← HW6.out]
    have hb6 : Below w3.heap.size w3 w6 := by rw [HW6.out]; exact below6' hb5 (by omega) _ _ _ _ _ _
    have HX6 : Hid (w6.heap[x]? = some (.cells #[.int .u64 0, .bool false, .int .i64 (hi (a.s + b.s)), .int .u64 (lo (a.s + b.s)), .int .i64 a.mn, .int .i64 a.mx] 36)) := by rw [HW6.out]; exact set6' HX5.out _ _ _ _ _ _
    refine hK.out _ _ ?_ (fun hHeld => ?_)
    · exact hb6
    clear hK K
    clear hHeld q0 q1 q2 q3 q4 q5 g0 g1 g2 g3 g4 g5 HW6 HX5
    refine wpAnyH_done (by kernel_rfl) ?_ _
    refine NoPanic.normal ?_
    have HB6 : Hid _ := hb6
    obtain ⟨hA6, hB6, hR6⟩ := HCA.out _ hb6
    have hR6 : w6.heap[w.heap.size + 1 + 1]? = some (.cells #[.int .u64 0, .bool false, .int .i64 0, .int .u64 0, .int .i64 0, .int .i64 0] 36) := hR6
    have z0 := c_rw hA6 0 (by simp)
    have z1 := c_rw hA6 1 (by simp)
    have z2 := c_rw hA6 2 (by simp)
    have z3 := c_rw hA6 3 (by simp)
    have z4 := c_rw hA6 4 (by simp)
    have z5 := c_rw hA6 5 (by simp)
    simp only [List.getElem_toArray, List.getElem_cons_succ, List.getElem_cons_zero] at z0 z1 z2 z3 z4 z5
    have y0 := c_rw hB6 0 (by simp)
    have y1 := c_rw hB6 1 (by simp)
    have y2 := c_rw hB6 2 (by simp)
    have y3 := c_rw hB6 3 (by simp)
    have y4 := c_rw hB6 4 (by simp)
    have y5 := c_rw hB6 5 (by simp)
    simp only [List.getElem_toArray, List.getElem_cons_succ, List.getElem_cons_zero] at y0 y1 y2 y3 y4 y5
    have o0 := c_rw HX6.out 0 (by simp)
    have o1 := c_rw HX6.out 1 (by simp)
    have o2 := c_rw HX6.out 2 (by simp)
    have o3 := c_rw HX6.out 3 (by simp)
    have o4 := c_rw HX6.out 4 (by simp)
    have o5 := c_rw HX6.out 5 (by simp)
    simp only [List.getElem_toArray, List.getElem_cons_succ, List.getElem_cons_zero] at o0 o1 o2 o3 o4 o5
    have go0 := f_rw HX6.out 0
    have go1 := f_rw HX6.out 1
    have go2 := f_rw HX6.out 2
    have go3 := f_rw HX6.out 3
    have go4 := f_rw HX6.out 4
    have go5 := f_rw HX6.out 5
    have r0 := c_rw hR6 0 (by simp)
    have r1 := c_rw hR6 1 (by simp)
    have r2 := c_rw hR6 2 (by simp)
    have r3 := c_rw hR6 3 (by simp)
    have r4 := c_rw hR6 4 (by simp)
    have r5 := c_rw hR6 5 (by simp)
    simp only [List.getElem_toArray, List.getElem_cons_succ, List.getElem_cons_zero] at r0 r1 r2 r3 r4 r5
    have gr0 := f_rw hR6 0
    have gr1 := f_rw hR6 1
    have gr2 := f_rw hR6 2
    have gr3 := f_rw hR6 3
    have gr4 := f_rw hR6 4
    have gr5 := f_rw hR6 5
    have e0 : x ≠ w.heap.size := by omega
    have d0 : w.heap.size ≠ x := by omega
    have e1 : x ≠ w.heap.size + 1 := by omega
    have d1 : w.heap.size + 1 ≠ x := by omega
    have e2 : x ≠ w.heap.size + 1 + 1 := by omega
    have d2 : w.heap.size + 1 + 1 ≠ x := by omega
    have hxn : w.heap.size ≤ x := by omega
    have HRR : Hid _ := hR6
    have HBB : Hid (Below w.heap.size w w6) := HB3.out.trans (hb6.mono HB3.out.size)
    clear hA6 hB6 hR6 hb6 HB6 hb5
    have AO : Hid _ := ao
    have BO : Hid _ := bo
    clear ao bo
    by_cases p1 : b.mn < a.mn
    · by_cases p2 : a.mx < b.mx
      · cases hao : a.o with
        | true =>
          have HAO : Hid (a.o = true) := hao
          clear hao
          have pc : a.c = 18446744073709551615 := AO.out HAO.out
          have HEQ : Hid (mrg a b = ⟨18446744073709551615, true, a.s + b.s, b.mn, b.mx⟩) := by
            unfold Hid; rw [mrg_both a b h h2]; unfold cntF ovF minF maxF
            rw [if_neg (by omega), if_pos p1, if_pos p2, decide_eq_true (by omega), HAO.out] <;> simp
          have HRT : Hid (((((w6.setCell ⟨x, 4, none⟩ (.int .i64 b.mn)).setCell ⟨x, 5, none⟩ (.int .i64 b.mx)).setCell ⟨x, 1, none⟩ (.bool true)).setCell ⟨x, 0, none⟩ (.int .u64 18446744073709551615)).heap[w.heap.size + 1 + 1]? = some (.cells #[.int .u64 0, .bool false, .int .i64 0, .int .u64 0, .int .i64 0, .int .i64 0] 36)) := by unfold Hid; rw [Go.heap_setCell_other _ _ _ _ d2, Go.heap_setCell_other _ _ _ _ d2, Go.heap_setCell_other _ _ _ _ d2, Go.heap_setCell_other _ _ _ _ d2]; exact HRR.out
          have HBT : Hid (Below w.heap.size w ((((w6.setCell ⟨x, 4, none⟩ (.int .i64 b.mn)).setCell ⟨x, 5, none⟩ (.int .i64 b.mx)).setCell ⟨x, 1, none⟩ (.bool true)).setCell ⟨x, 0, none⟩ (.int .u64 18446744073709551615))) := ((((HBB.out.setCell hxn _).setCell hxn _).setCell hxn _).setCell hxn _)
          rw [HAO.out] at z1
          clear pc
          go_wp2_with fail
          exact bodyPost_ret (res_r rfl _ _ (w.heap.size + 1 + 1) _ rfl (run_loadVar_row _ (w.heap.size + 1 + 1) _ _ _ (0, 0) _ (set6' HRT.out _ _ _ _ _ _) Tryz.underlying36 rfl (by kernel_rfl))) rfl ⟨by rw [HEQ.out], below6' HBT.out (by omega) _ _ _ _ _ _⟩
        | false =>
          have HAO : Hid (a.o = false) := hao
          clear hao
          cases hbo : b.o with
          | true =>
            have HBO : Hid (b.o = true) := hbo
            clear hbo
            have pc : b.c = 18446744073709551615 := BO.out HBO.out
            have HEQ : Hid (mrg a b = ⟨18446744073709551615, true, a.s + b.s, b.mn, b.mx⟩) := by
              unfold Hid; rw [mrg_both a b h h2]; unfold cntF ovF minF maxF
              rw [if_neg (by omega), if_pos p1, if_pos p2, decide_eq_true (by omega), HAO.out, HBO.out] <;> simp
            have HRT : Hid (((((w6.setCell ⟨x, 4, none⟩ (.int .i64 b.mn)).setCell ⟨x, 5, none⟩ (.int .i64 b.mx)).setCell ⟨x, 1, none⟩ (.bool true)).setCell ⟨x, 0, none⟩ (.int .u64 18446744073709551615)).heap[w.heap.size + 1 + 1]? = some (.cells #[.int .u64 0, .bool false, .int .i64 0, .int .u64 0, .int .i64 0, .int .i64 0] 36)) := by unfold Hid; rw [Go.heap_setCell_other _ _ _ _ d2, Go.heap_setCell_other _ _ _ _ d2, Go.heap_setCell_other _ _ _ _ d2, Go.heap_setCell_other _ _ _ _ d2]; exact HRR.out
            have HBT : Hid (Below w.heap.size w ((((w6.setCell ⟨x, 4, none⟩ (.int .i64 b.mn)).setCell ⟨x, 5, none⟩ (.int .i64 b.mx)).setCell ⟨x, 1, none⟩ (.bool true)).setCell ⟨x, 0, none⟩ (.int .u64 18446744073709551615))) := ((((HBB.out.setCell hxn _).setCell hxn _).setCell hxn _).setCell hxn _)
            rw [HAO.out] at z1
            rw [HBO.out] at y1
            clear pc
            go_wp2_with fail
            exact bodyPost_ret (res_r rfl _ _ (w.heap.size + 1 + 1) _ rfl (run_loadVar_row _ (w.heap.size + 1 + 1) _ _ _ (0, 0) _ (set6' HRT.out _ _ _ _ _ _) Tryz.underlying36 rfl (by kernel_rfl))) rfl ⟨by rw [HEQ.out], below6' HBT.out (by omega) _ _ _ _ _ _⟩
          | false =>
            have HBO : Hid (b.o = false) := hbo
            clear hbo
            by_cases p3 : 18446744073709551615 - b.c < a.c
            · have HEQ : Hid (mrg a b = ⟨18446744073709551615, true, a.s + b.s, b.mn, b.mx⟩) := by
                unfold Hid; rw [mrg_both a b h h2]; unfold cntF ovF minF maxF
                rw [if_neg (by omega), if_pos p1, if_pos p2, decide_eq_true (by omega), HAO.out, HBO.out] <;> simp
              have HRT : Hid (((((w6.setCell ⟨x, 4, none⟩ (.int .i64 b.mn)).setCell ⟨x, 5, none⟩ (.int .i64 b.mx)).setCell ⟨x, 1, none⟩ (.bool true)).setCell ⟨x, 0, none⟩ (.int .u64 18446744073709551615)).heap[w.heap.size + 1 + 1]? = some (.cells #[.int .u64 0, .bool false, .int .i64 0, .int .u64 0, .int .i64 0, .int .i64 0] 36)) := by unfold Hid; rw [Go.heap_setCell_other _ _ _ _ d2, Go.heap_setCell_other _ _ _ _ d2, Go.heap_setCell_other _ _ _ _ d2, Go.heap_setCell_other _ _ _ _ d2]; exact HRR.out
              have HBT : Hid (Below w.heap.size w ((((w6.setCell ⟨x, 4, none⟩ (.int .i64 b.mn)).setCell ⟨x, 5, none⟩ (.int .i64 b.mx)).setCell ⟨x, 1, none⟩ (.bool true)).setCell ⟨x, 0, none⟩ (.int .u64 18446744073709551615))) := ((((HBB.out.setCell hxn _).setCell hxn _).setCell hxn _).setCell hxn _)
              rw [HAO.out] at z1
              rw [HBO.out] at y1
              go_wp2_with fail
              exact bodyPost_ret (res_r rfl _ _ (w.heap.size + 1 + 1) _ rfl (run_loadVar_row _ (w.heap.size + 1 + 1) _ _ _ (0, 0) _ (set6' HRT.out _ _ _ _ _ _) Tryz.underlying36 rfl (by kernel_rfl))) rfl ⟨by rw [HEQ.out], below6' HBT.out (by omega) _ _ _ _ _ _⟩
            · have HEQ : Hid (mrg a b = ⟨a.c + b.c, false, a.s + b.s, b.mn, b.mx⟩) := by
                unfold Hid; rw [mrg_both a b h h2]; unfold cntF ovF minF maxF
                rw [if_pos (by omega), if_pos p1, if_pos p2, decide_eq_false (by omega), HAO.out, HBO.out] <;> rfl
              have HRT : Hid ((((w6.setCell ⟨x, 4, none⟩ (.int .i64 b.mn)).setCell ⟨x, 5, none⟩ (.int .i64 b.mx)).setCell ⟨x, 0, none⟩ (.int .u64 (a.c + b.c))).heap[w.heap.size + 1 + 1]? = some (.cells #[.int .u64 0, .bool false, .int .i64 0, .int .u64 0, .int .i64 0, .int .i64 0] 36)) := by unfold Hid; rw [Go.heap_setCell_other _ _ _ _ d2, Go.heap_setCell_other _ _ _ _ d2, Go.heap_setCell_other _ _ _ _ d2]; exact HRR.out
              have HBT : Hid (Below w.heap.size w (((w6.setCell ⟨x, 4, none⟩ (.int .i64 b.mn)).setCell ⟨x, 5, none⟩ (.int .i64 b.mx)).setCell ⟨x, 0, none⟩ (.int .u64 (a.c + b.c)))) := (((HBB.out.setCell hxn _).setCell hxn _).setCell hxn _)
              rw [HAO.out] at z1
              rw [HBO.out] at y1
              go_wp2_with fail
              exact bodyPost_ret (res_r rfl _ _ (w.heap.size + 1 + 1) _ rfl (run_loadVar_row _ (w.heap.size + 1 + 1) _ _ _ (0, 0) _ (set6' HRT.out _ _ _ _ _ _) Tryz.underlying36 rfl (by kernel_rfl))) rfl ⟨by rw [HEQ.out], below6' HBT.out (by omega) _ _ _ _ _ _⟩
      · cases hao : a.o with
        | true =>
          have HAO : Hid (a.o = true) := hao
          clear hao
          have pc : a.c = 18446744073709551615 := AO.out HAO.out
          have HEQ : Hid (mrg a b = ⟨18446744073709551615, true, a.s + b.s, b.mn, a.mx⟩) := by
            unfold Hid; rw [mrg_both a b h h2]; unfold cntF ovF minF maxF
            rw [if_neg (by omega), if_pos p1, if_neg p2, decide_eq_true (by omega), HAO.out] <;> simp
          have HRT : Hid ((((w6.setCell ⟨x, 4, none⟩ (.int .i64 b.mn)).setCell ⟨x, 1, none⟩ (.bool true)).setCell ⟨x, 0, none⟩ (.int .u64 18446744073709551615)).heap[w.heap.size + 1 + 1]? = some (.cells #[.int .u64 0, .bool false, .int .i64 0, .int .u64 0, .int .i64 0, .int .i64 0] 36)) := by unfold Hid; rw [Go.heap_setCell_other _ _ _ _ d2, Go.heap_setCell_other _ _ _ _ d2, Go.heap_setCell_other _ _ _ _ d2]; exact HRR.out
          have HBT : Hid (Below w.heap.size w (((w6.setCell ⟨x, 4, none⟩ (.int .i64 b.mn)).setCell ⟨x, 1, none⟩ (.bool true)).setCell ⟨x, 0, none⟩ (.int .u64 18446744073709551615))) := (((HBB.out.setCell hxn _).setCell hxn _).setCell hxn _)
          rw [HAO.out] at z1
          clear pc
          go_wp2_with fail
          exact bodyPost_ret (res_r rfl _ _ (w.heap.size + 1 + 1) _ rfl (run_loadVar_row _ (w.heap.size + 1 + 1) _ _ _ (0, 0) _ (set6' HRT.out _ _ _ _ _ _) Tryz.underlying36 rfl (by kernel_rfl))) rfl ⟨by rw [HEQ.out], below6' HBT.out (by omega) _ _ _ _ _ _⟩
        | false =>
          have HAO : Hid (a.o = false) := hao
          clear hao
          cases hbo : b.o with
          | true =>
            have HBO : Hid (b.o = true) := hbo
            clear hbo
            have pc : b.c = 18446744073709551615 := BO.out HBO.out
            have HEQ : Hid (mrg a b = ⟨18446744073709551615, true, a.s + b.s, b.mn, a.mx⟩) := by
              unfold Hid; rw [mrg_both a b h h2]; unfold cntF ovF minF maxF
              rw [if_neg (by omega), if_pos p1, if_neg p2, decide_eq_true (by omega), HAO.out, HBO.out] <;> simp
            have HRT : Hid ((((w6.setCell ⟨x, 4, none⟩ (.int .i64 b.mn)).setCell ⟨x, 1, none⟩ (.bool true)).setCell ⟨x, 0, none⟩ (.int .u64 18446744073709551615)).heap[w.heap.size + 1 + 1]? = some (.cells #[.int .u64 0, .bool false, .int .i64 0, .int .u64 0, .int .i64 0, .int .i64 0] 36)) := by unfold Hid; rw [Go.heap_setCell_other _ _ _ _ d2, Go.heap_setCell_other _ _ _ _ d2, Go.heap_setCell_other _ _ _ _ d2]; exact HRR.out
            have HBT : Hid (Below w.heap.size w (((w6.setCell ⟨x, 4, none⟩ (.int .i64 b.mn)).setCell ⟨x, 1, none⟩ (.bool true)).setCell ⟨x, 0, none⟩ (.int .u64 18446744073709551615))) := (((HBB.out.setCell hxn _).setCell hxn _).setCell hxn _)
            rw [HAO.out] at z1
            rw [HBO.out] at y1
            clear pc
            go_wp2_with fail
            exact bodyPost_ret (res_r rfl _ _ (w.heap.size + 1 + 1) _ rfl (run_loadVar_row _ (w.heap.size + 1 + 1) _ _ _ (0, 0) _ (set6' HRT.out _ _ _ _ _ _) Tryz.underlying36 rfl (by kernel_rfl))) rfl ⟨by rw [HEQ.out], below6' HBT.out (by omega) _ _ _ _ _ _⟩
          | false =>
            have HBO : Hid (b.o = false) := hbo
            clear hbo
            by_cases p3 : 18446744073709551615 - b.c < a.c
            · have HEQ : Hid (mrg a b = ⟨18446744073709551615, true, a.s + b.s, b.mn, a.mx⟩) := by
                unfold Hid; rw [mrg_both a b h h2]; unfold cntF ovF minF maxF
                rw [if_neg (by omega), if_pos p1, if_neg p2, decide_eq_true (by omega), HAO.out, HBO.out] <;> simp
              have HRT : Hid ((((w6.setCell ⟨x, 4, none⟩ (.int .i64 b.mn)).setCell ⟨x, 1, none⟩ (.bool true)).setCell ⟨x, 0, none⟩ (.int .u64 18446744073709551615)).heap[w.heap.size + 1 + 1]? = some (.cells #[.int .u64 0, .bool false, .int .i64 0, .int .u64 0, .int .i64 0, .int .i64 0] 36)) := by unfold Hid; rw [Go.heap_setCell_other _ _ _ _ d2, Go.heap_setCell_other _ _ _ _ d2, Go.heap_setCell_other _ _ _ _ d2]; exact HRR.out
              have HBT : Hid (Below w.heap.size w (((w6.setCell ⟨x, 4, none⟩ (.int .i64 b.mn)).setCell ⟨x, 1, none⟩ (.bool true)).setCell ⟨x, 0, none⟩ (.int .u64 18446744073709551615))) := (((HBB.out.setCell hxn _).setCell hxn _).setCell hxn _)
              rw [HAO.out] at z1
              rw [HBO.out] at y1
              go_wp2_with fail
              exact bodyPost_ret (res_r rfl _ _ (w.heap.size + 1 + 1) _ rfl (run_loadVar_row _ (w.heap.size + 1 + 1) _ _ _ (0, 0) _ (set6' HRT.out _ _ _ _ _ _) Tryz.underlying36 rfl (by kernel_rfl))) rfl ⟨by rw [HEQ.out], below6' HBT.out (by omega) _ _ _ _ _ _⟩
            · have HEQ : Hid (mrg a b = ⟨a.c + b.c, false, a.s + b.s, b.mn, a.mx⟩) := by
                unfold Hid; rw [mrg_both a b h h2]; unfold cntF ovF minF maxF
                rw [if_pos (by omega), if_pos p1, if_neg p2, decide_eq_false (by omega), HAO.out, HBO.out] <;> rfl
              have HRT : Hid (((w6.setCell ⟨x, 4, none⟩ (.int .i64 b.mn)).setCell ⟨x, 0, none⟩ (.int .u64 (a.c + b.c))).heap[w.heap.size + 1 + 1]? = some (.cells #[.int .u64 0, .bool false, .int .i64 0, .int .u64 0, .int .i64 0, .int .i64 0] 36)) := by unfold Hid; rw [Go.heap_setCell_other _ _ _ _ d2, Go.heap_setCell_other _ _ _ _ d2]; exact HRR.out
              have HBT : Hid (Below w.heap.size w ((w6.setCell ⟨x, 4, none⟩ (.int .i64 b.mn)).setCell ⟨x, 0, none⟩ (.int .u64 (a.c + b.c)))) := ((HBB.out.setCell hxn _).setCell hxn _)
              rw [HAO.out] at z1
              rw [HBO.out] at y1
              go_wp2_with fail
              exact bodyPost_ret (res_r rfl _ _ (w.heap.size + 1 + 1) _ rfl (run_loadVar_row _ (w.heap.size + 1 + 1) _ _ _ (0, 0) _ (set6' HRT.out _ _ _ _ _ _) Tryz.underlying36 rfl (by kernel_rfl))) rfl ⟨by rw [HEQ.out], below6' HBT.out (by omega) _ _ _ _ _ _⟩
    · by_cases p2 : a.mx < b.mx
      · cases hao : a.o with
        | true =>
          have HAO : Hid (a.o = true) := hao
          clear hao
          have pc : a.c = 18446744073709551615 := AO.out HAO.out
          have HEQ : Hid (mrg a b = ⟨18446744073709551615, true, a.s + b.s, a.mn, b.mx⟩) := by
            unfold Hid; rw [mrg_both a b h h2]; unfold cntF ovF minF maxF
            rw [if_neg (by omega), if_neg p1, if_pos p2, decide_eq_true (by omega), HAO.out] <;> simp
          have HRT : Hid ((((w6.setCell ⟨x, 5, none⟩ (.int .i64 b.mx)).setCell ⟨x, 1, none⟩ (.bool true)).setCell ⟨x, 0, none⟩ (.int .u64 18446744073709551615)).heap[w.heap.size + 1 + 1]? = some (.cells #[.int .u64 0, .bool false, .int .i64 0, .int .u64 0, .int .i64 0, .int .i64 0] 36)) := by unfold Hid; rw [Go.heap_setCell_other _ _ _ _ d2, Go.heap_setCell_other _ _ _ _ d2, Go.heap_setCell_other _ _ _ _ d2]; exact HRR.out
          have HBT : Hid (Below w.heap.size w (((w6.setCell ⟨x, 5, none⟩ (.int .i64 b.mx)).setCell ⟨x, 1, none⟩ (.bool true)).setCell ⟨x, 0, none⟩ (.int .u64 18446744073709551615))) := (((HBB.out.setCell hxn _).setCell hxn _).setCell hxn _)
          rw [HAO.out] at z1
          clear pc
          go_wp2_with fail
          exact bodyPost_ret (res_r rfl _ _ (w.heap.size + 1 + 1) _ rfl (run_loadVar_row _ (w.heap.size + 1 + 1) _ _ _ (0, 0) _ (set6' HRT.out _ _ _ _ _ _) Tryz.underlying36 rfl (by kernel_rfl))) rfl ⟨by rw [HEQ.out], below6' HBT.out (by omega) _ _ _ _ _ _⟩
        | false =>
          have HAO : Hid (a.o = false) := hao
          clear hao
          cases hbo : b.o with
          | true =>
            have HBO : Hid (b.o = true) := hbo
            clear hbo
            have pc : b.c = 18446744073709551615 := BO.out HBO.out
            have HEQ : Hid (mrg a b = ⟨18446744073709551615, true, a.s + b.s, a.mn, b.mx⟩) := by
              unfold Hid; rw [mrg_both a b h h2]; unfold cntF ovF minF maxF
              rw [if_neg (by omega), if_neg p1, if_pos p2, decide_eq_true (by omega), HAO.out, HBO.out] <;> simp
            have HRT : Hid ((((w6.setCell ⟨x, 5, none⟩ (.int .i64 b.mx)).setCell ⟨x, 1, none⟩ (.bool true)).setCell ⟨x, 0, none⟩ (.int .u64 18446744073709551615)).heap[w.heap.size + 1 + 1]? = some (.cells #[.int .u64 0, .bool false, .int .i64 0, .int .u64 0, .int .i64 0, .int .i64 0] 36)) := by unfold Hid; rw [Go.heap_setCell_other _ _ _ _ d2, Go.heap_setCell_other _ _ _ _ d2, Go.heap_setCell_other _ _ _ _ d2]; exact HRR.out
            have HBT : Hid (Below w.heap.size w (((w6.setCell ⟨x, 5, none⟩ (.int .i64 b.mx)).setCell ⟨x, 1, none⟩ (.bool true)).setCell ⟨x, 0, none⟩ (.int .u64 18446744073709551615))) := (((HBB.out.setCell hxn _).setCell hxn _).setCell hxn _)
            rw [HAO.out] at z1
            rw [HBO.out] at y1
            clear pc
            go_wp2_with fail
            exact bodyPost_ret (res_r rfl _ _ (w.heap.size + 1 + 1) _ rfl (run_loadVar_row _ (w.heap.size + 1 + 1) _ _ _ (0, 0) _ (set6' HRT.out _ _ _ _ _ _) Tryz.underlying36 rfl (by kernel_rfl))) rfl ⟨by rw [HEQ.out], below6' HBT.out (by omega) _ _ _ _ _ _⟩
          | false =>
            have HBO : Hid (b.o = false) := hbo
            clear hbo
            by_cases p3 : 18446744073709551615 - b.c < a.c
            · have HEQ : Hid (mrg a b = ⟨18446744073709551615, true, a.s + b.s, a.mn, b.mx⟩) := by
                unfold Hid; rw [mrg_both a b h h2]; unfold cntF ovF minF maxF
                rw [if_neg (by omega), if_neg p1, if_pos p2, decide_eq_true (by omega), HAO.out, HBO.out] <;> simp
              have HRT : Hid ((((w6.setCell ⟨x, 5, none⟩ (.int .i64 b.mx)).setCell ⟨x, 1, none⟩ (.bool true)).setCell ⟨x, 0, none⟩ (.int .u64 18446744073709551615)).heap[w.heap.size + 1 + 1]? = some (.cells #[.int .u64 0, .bool false, .int .i64 0, .int .u64 0, .int .i64 0, .int .i64 0] 36)) := by unfold Hid; rw [Go.heap_setCell_other _ _ _ _ d2, Go.heap_setCell_other _ _ _ _ d2, Go.heap_setCell_other _ _ _ _ d2]; exact HRR.out
              have HBT : Hid (Below w.heap.size w (((w6.setCell ⟨x, 5, none⟩ (.int .i64 b.mx)).setCell ⟨x, 1, none⟩ (.bool true)).setCell ⟨x, 0, none⟩ (.int .u64 18446744073709551615))) := (((HBB.out.setCell hxn _).setCell hxn _).setCell hxn _)
              rw [HAO.out] at z1
              rw [HBO.out] at y1
              go_wp2_with fail
              exact bodyPost_ret (res_r rfl _ _ (w.heap.size + 1 + 1) _ rfl (run_loadVar_row _ (w.heap.size + 1 + 1) _ _ _ (0, 0) _ (set6' HRT.out _ _ _ _ _ _) Tryz.underlying36 rfl (by kernel_rfl))) rfl ⟨by rw [HEQ.out], below6' HBT.out (by omega) _ _ _ _ _ _⟩
            · have HEQ : Hid (mrg a b = ⟨a.c + b.c, false, a.s + b.s, a.mn, b.mx⟩) := by
                unfold Hid; rw [mrg_both a b h h2]; unfold cntF ovF minF maxF
                rw [if_pos (by omega), if_neg p1, if_pos p2, decide_eq_false (by omega), HAO.out, HBO.out] <;> rfl
              have HRT : Hid (((w6.setCell ⟨x, 5, none⟩ (.int .i64 b.mx)).setCell ⟨x, 0, none⟩ (.int .u64 (a.c + b.c))).heap[w.heap.size + 1 + 1]? = some (.cells #[.int .u64 0, .bool false, .int .i64 0, .int .u64 0, .int .i64 0, .int .i64 0] 36)) := by unfold Hid; rw [Go.heap_setCell_other _ _ _ _ d2, Go.heap_setCell_other _ _ _ _ d2]; exact HRR.out
              have HBT : Hid (Below w.heap.size w ((w6.setCell ⟨x, 5, none⟩ (.int .i64 b.mx)).setCell ⟨x, 0, none⟩ (.int .u64 (a.c + b.c)))) := ((HBB.out.setCell hxn _).setCell hxn _)
              rw [HAO.out] at z1
              rw [HBO.out] at y1
              go_wp2_with fail
              exact bodyPost_ret (res_r rfl _ _ (w.heap.size + 1 + 1) _ rfl (run_loadVar_row _ (w.heap.size + 1 + 1) _ _ _ (0, 0) _ (set6' HRT.out _ _ _ _ _ _) Tryz.underlying36 rfl (by kernel_rfl))) rfl ⟨by rw [HEQ.out], below6' HBT.out (by omega) _ _ _ _ _ _⟩
      · cases hao : a.o with
        | true =>
          have HAO : Hid (a.o = true) := hao
          clear hao
          have pc : a.c = 18446744073709551615 := AO.out HAO.out
          have HEQ : Hid (mrg a b = ⟨18446744073709551615, true, a.s + b.s, a.mn, a.mx⟩) := by
            unfold Hid; rw [mrg_both a b h h2]; unfold cntF ovF minF maxF
            rw [if_neg (by omega), if_neg p1, if_neg p2, decide_eq_true (by omega), HAO.out] <;> simp
          have HRT : Hid (((w6.setCell ⟨x, 1, none⟩ (.bool true)).setCell ⟨x, 0, none⟩ (.int .u64 18446744073709551615)).heap[w.heap.size + 1 + 1]? = some (.cells #[.int .u64 0, .bool false, .int .i64 0, .int .u64 0, .int .i64 0, .int .i64 0] 36)) := by unfold Hid; rw [Go.heap_setCell_other _ _ _ _ d2, Go.heap_setCell_other _ _ _ _ d2]; exact HRR.out
          have HBT : Hid (Below w.heap.size w ((w6.setCell ⟨x, 1, none⟩ (.bool true)).setCell ⟨x, 0, none⟩ (.int .u64 18446744073709551615))) := ((HBB.out.setCell hxn _).setCell hxn _)
          rw [HAO.out] at z1
          clear pc
          go_wp2_with fail
          exact bodyPost_ret (res_r rfl _ _ (w.heap.size + 1 + 1) _ rfl (run_loadVar_row _ (w.heap.size + 1 + 1) _ _ _ (0, 0) _ (set6' HRT.out _ _ _ _ _ _) Tryz.underlying36 rfl (by kernel_rfl))) rfl ⟨by rw [HEQ.out], below6' HBT.out (by omega) _ _ _ _ _ _⟩
        | false =>
          have HAO : Hid (a.o = false) := hao
          clear hao
          cases hbo : b.o with
          | true =>
            have HBO : Hid (b.o = true) := hbo
            clear hbo
            have pc : b.c = 18446744073709551615 := BO.out HBO.out
            have HEQ : Hid (mrg a b = ⟨18446744073709551615, true, a.s + b.s, a.mn, a.mx⟩) := by
              unfold Hid; rw [mrg_both a b h h2]; unfold cntF ovF minF maxF
              rw [if_neg (by omega), if_neg p1, if_neg p2, decide_eq_true (by omega), HAO.out, HBO.out] <;> simp
            have HRT : Hid (((w6.setCell ⟨x, 1, none⟩ (.bool true)).setCell ⟨x, 0, none⟩ (.int .u64 18446744073709551615)).heap[w.heap.size + 1 + 1]? = some (.cells #[.int .u64 0, .bool false, .int .i64 0, .int .u64 0, .int .i64 0, .int .i64 0] 36)) := by unfold Hid; rw [Go.heap_setCell_other _ _ _ _ d2, Go.heap_setCell_other _ _ _ _ d2]; exact HRR.out
            have HBT : Hid (Below w.heap.size w ((w6.setCell ⟨x, 1, none⟩ (.bool true)).setCell ⟨x, 0, none⟩ (.int .u64 18446744073709551615))) := ((HBB.out.setCell hxn _).setCell hxn _)
            rw [HAO.out] at z1
            rw [HBO.out] at y1
            clear pc
            go_wp2_with fail
            exact bodyPost_ret (res_r rfl _ _ (w.heap.size + 1 + 1) _ rfl (run_loadVar_row _ (w.heap.size + 1 + 1) _ _ _ (0, 0) _ (set6' HRT.out _ _ _ _ _ _) Tryz.underlying36 rfl (by kernel_rfl))) rfl ⟨by rw [HEQ.out], below6' HBT.out (by omega) _ _ _ _ _ _⟩
          | false =>
            have HBO : Hid (b.o = false) := hbo
            clear hbo
            by_cases p3 : 18446744073709551615 - b.c < a.c
            · have HEQ : Hid (mrg a b = ⟨18446744073709551615, true, a.s + b.s, a.mn, a.mx⟩) := by
                unfold Hid; rw [mrg_both a b h h2]; unfold cntF ovF minF maxF
                rw [if_neg (by omega), if_neg p1, if_neg p2, decide_eq_true (by omega), HAO.out, HBO.out] <;> simp
              have HRT : Hid (((w6.setCell ⟨x, 1, none⟩ (.bool true)).setCell ⟨x, 0, none⟩ (.int .u64 18446744073709551615)).heap[w.heap.size + 1 + 1]? = some (.cells #[.int .u64 0, .bool false, .int .i64 0, .int .u64 0, .int .i64 0, .int .i64 0] 36)) := by unfold Hid; rw [Go.heap_setCell_other _ _ _ _ d2, Go.heap_setCell_other _ _ _ _ d2]; exact HRR.out
              have HBT : Hid (Below w.heap.size w ((w6.setCell ⟨x, 1, none⟩ (.bool true)).setCell ⟨x, 0, none⟩ (.int .u64 18446744073709551615))) := ((HBB.out.setCell hxn _).setCell hxn _)
              rw [HAO.out] at z1
              rw [HBO.out] at y1
              go_wp2_with fail
              exact bodyPost_ret (res_r rfl _ _ (w.heap.size + 1 + 1) _ rfl (run_loadVar_row _ (w.heap.size + 1 + 1) _ _ _ (0, 0) _ (set6' HRT.out _ _ _ _ _ _) Tryz.underlying36 rfl (by kernel_rfl))) rfl ⟨by rw [HEQ.out], below6' HBT.out (by omega) _ _ _ _ _ _⟩
            · have HEQ : Hid (mrg a b = ⟨a.c + b.c, false, a.s + b.s, a.mn, a.mx⟩) := by
                unfold Hid; rw [mrg_both a b h h2]; unfold cntF ovF minF maxF
                rw [if_pos (by omega), if_neg p1, if_neg p2, decide_eq_false (by omega), HAO.out, HBO.out] <;> rfl
              have HRT : Hid ((w6.setCell ⟨x, 0, none⟩ (.int .u64 (a.c + b.c))).heap[w.heap.size + 1 + 1]? = some (.cells #[.int .u64 0, .bool false, .int .i64 0, .int .u64 0, .int .i64 0, .int .i64 0] 36)) := by unfold Hid; rw [Go.heap_setCell_other _ _ _ _ d2]; exact HRR.out
              have HBT : Hid (Below w.heap.size w (w6.setCell ⟨x, 0, none⟩ (.int .u64 (a.c + b.c)))) := (HBB.out.setCell hxn _)
              rw [HAO.out] at z1
              rw [HBO.out] at y1
              go_wp2_with fail
              exact bodyPost_ret (res_r rfl _ _ (w.heap.size + 1 + 1) _ rfl (run_loadVar_row _ (w.heap.size + 1 + 1) _ _ _ (0, 0) _ (set6' HRT.out _ _ _ _ _ _) Tryz.underlying36 rfl (by kernel_rfl))) rfl ⟨by rw [HEQ.out], below6' HBT.out (by omega) _ _ _ _ _ _⟩
  · go_simp
    obtain ⟨w4, HW4⟩ := hid_ex (w3.alloc (.cells #[.int .u64 0, .bool false, .int .i64 0, .int .u64 0, .int .i64 0, .int .i64 0] 36)).drew
    rw [← HW4.out]
    have hb4 : Below w3.heap.size w3 w4 := by rw [HW4.out]; exact ((Below.refl w3.heap.size w3).alloc (Nat.le_refl _) _).drew
    have HX4 : Hid (w4.heap[w.heap.size + 3]? = some (.cells #[.int .u64 0, .bool false, .int .i64 0, .int .u64 0, .int .i64 0, .int .i64 0] 36)) := by rw [HW4.out, ← hz3]; exact heap_alloc_new w3 _
    obtain ⟨x, hxe⟩ : ∃ x, x = w.heap.size + 3 := ⟨_, rfl⟩
    have hx3 : w.heap.size + 3 ≤ x := by omega
    rw [← hxe] at HX4 ⊢
    refine hK.out _ _ ?_ (fun hHeld => ?_)
    · exact hb4
    clear hK K
    clear HW4 hxe
    refine wpAnyH_ready (rs := [4]) (by kernel_rfl) (by simp) ?_
    refine AllReadyH.cons (o := _) rfl (fun K hK => ?_) AllReadyH.nil
    go_simp
    refine (HAD.out _).mono ?_
    rintro e w5 ⟨rfl, hb5'⟩
    have hb5 : Below w3.heap.size w3 w5 := hb4.trans (hb5'.mono hb4.size)
    have HX5 : Hid (w5.heap[x]? = some (.cells #[.int .u64 0, .bool false, .int .i64 0, .int .u64 0, .int .i64 0, .int .i64 0] 36)) := (hb5'.block _ (Array.getElem?_eq_some_iff.1 HX4.out).1).trans HX4.out
    clear hb5'
    refine hK.out _ _ ?_ (fun hHeld => ?_)
    · exact hb5
    clear hK K
    refine wpAnyH_take (i := 9) (v := .agg #[.int .u64 0, .bool false, .int .i64 (hi (a.s + b.s)), .int .u64 (lo (a.s + b.s)), .int .i64 a.mn, .int .i64 a.mx]) rfl (by kernel_rfl) (by kernel_rfl) (by kernel_rfl) (fun _ _ _ h => h) (Or.inl ⟨by rfl, ?_⟩) (by assumption) ?_
    · (intro w1 hSw; (try dsimp only at hSw); go_simp)
    simp only [List.getElem_toArray, List.getElem_cons_succ, List.getElem_cons_zero, Act.put, List.setIfInBounds_toArray, List.set_cons_zero, List.set_cons_succ]
    clear hb4 HX4
    have q0 := c_rw HX5.out 0 (by simp)
    have q1 := c_rw HX5.out 1 (by simp)
    have q2 := c_rw HX5.out 2 (by simp)
    have q3 := c_rw HX5.out 3 (by simp)
    have q4 := c_rw HX5.out 4 (by simp)
    have q5 := c_rw HX5.out 5 (by simp)
    simp only [List.getElem_toArray, List.getElem_cons_succ, List.getElem_cons_zero] at q0 q1 q2 q3 q4 q5
    have g0 := f_rw HX5.out 0
    have g1 := f_rw HX5.out 1
    have g2 := f_rw HX5.out 2
    have g3 := f_rw HX5.out 3
    have g4 := f_rw HX5.out 4
    have g5 := f_rw HX5.out 5
    refine wpAnyH_ready (rs := [11]) (by kernel_rfl) (by simp) ?_
    refine AllReadyH.cons (o := _) rfl (fun K hK => ?_) AllReadyH.nil
    go_simp
    obtain ⟨w6, HW6⟩ := hid_ex ((((((w5.setCell ⟨x, 0, none⟩ (.int .u64 0)).setCell ⟨x, 1, none⟩ (.bool false)).setCell ⟨x, 2, none⟩ (.int .i64 (hi (a.s + b.s)))).setCell ⟨x, 3, none⟩ (.int .u64 (lo (a.s + b.s)))).setCell ⟨x, 4, none⟩ (.int .i64 a.mn)).setCell ⟨x, 5, none⟩ (.int .i64 a.mx))
    rw [← HW6.out]
    have hb6 : Below w3.heap.size w3 w6 := by rw [HW6.out]; exact below6' hb5 (by omega) _ _ _ _ _ _
    have HX6 : Hid (w6.heap[x]? = some (.cells #[.int .u64 0, .bool false, .int .i64 (hi (a.s + b.s)), .int .u64 (lo (a.s + b.s)), .int .i64 a.mn, .int .i64 a.mx] 36)) := by rw [HW6.out]; exact set6' HX5.out _ _ _ _ _ _
    refine hK.out _ _ ?_ (fun hHeld => ?_)
    · exact hb6
    clear hK K
    clear hHeld q0 q1 q2 q3 q4 q5 g0 g1 g2 g3 g4 g5 HW6 HX5
    refine wpAnyH_done (by kernel_rfl) ?_ _
    refine NoPanic.normal ?_
    have HB6 : Hid _ := hb6
    obtain ⟨hA6, hB6, hR6⟩ := HCA.out _ hb6
    have hR6 : w6.heap[w.heap.size + 1 + 1]? = some (.cells #[.int .u64 0, .bool false, .int .i64 0, .int .u64 0, .int .i64 0, .int .i64 0] 36) := hR6
    have z0 := c_rw hA6 0 (by simp)
    have z1 := c_rw hA6 1 (by simp)
    have z2 := c_rw hA6 2 (by simp)
    have z3 := c_rw hA6 3 (by simp)
    have z4 := c_rw hA6 4 (by simp)
    have z5 := c_rw hA6 5 (by simp)
    simp only [List.getElem_toArray, List.getElem_cons_succ, List.getElem_cons_zero] at z0 z1 z2 z3 z4 z5
    have y0 := c_rw hB6 0 (by simp)
    have y1 := c_rw hB6 1 (by simp)
    have y2 := c_rw hB6 2 (by simp)
    have y3 := c_rw hB6 3 (by simp)
    have y4 := c_rw hB6 4 (by simp)
    have y5 := c_rw hB6 5 (by simp)
    simp only [List.getElem_toArray, List.getElem_cons_succ, List.getElem_cons_zero] at y0 y1 y2 y3 y4 y5
    have o0 := c_rw HX6.out 0 (by simp)
    have o1 := c_rw HX6.out 1 (by simp)
    have o2 := c_rw HX6.out 2 (by simp)
    have o3 := c_rw HX6.out 3 (by simp)
    have o4 := c_rw HX6.out 4 (by simp)
    have o5 := c_rw HX6.out 5 (by simp)
    simp only [List.getElem_toArray, List.getElem_cons_succ, List.getElem_cons_zero] at o0 o1 o2 o3 o4 o5
    have go0 := f_rw HX6.out 0
    have go1 := f_rw HX6.out 1
    have go2 := f_rw HX6.out 2
    have go3 := f_rw HX6.out 3
    have go4 := f_rw HX6.out 4
    have go5 := f_rw HX6.out 5
    have r0 := c_rw hR6 0 (by simp)
    have r1 := c_rw hR6 1 (by simp)
    have r2 := c_rw hR6 2 (by simp)
    have r3 := c_rw hR6 3 (by simp)
    have r4 := c_rw hR6 4 (by simp)
    have r5 := c_rw hR6 5 (by simp)
    simp only [List.getElem_toArray, List.getElem_cons_succ, List.getElem_cons_zero] at r0 r1 r2 r3 r4 r5
    have gr0 := f_rw hR6 0
    have gr1 := f_rw hR6 1
    have gr2 := f_rw hR6 2
    have gr3 := f_rw hR6 3
    have gr4 := f_rw hR6 4
    have gr5 := f_rw hR6 5
    have e0 : x ≠ w.heap.size := by omega
    have d0 : w.heap.size ≠ x := by omega
    have e1 : x ≠ w.heap.size + 1 := by omega
    have d1 : w.heap.size + 1 ≠ x := by omega
    have e2 : x ≠ w.heap.size + 1 + 1 := by omega
    have d2 : w.heap.size + 1 + 1 ≠ x := by omega
    have hxn : w.heap.size ≤ x := by omega
    have HRR : Hid _ := hR6
    have HBB : Hid (Below w.heap.size w w6) := HB3.out.trans (hb6.mono HB3.out.size)
    clear hA6 hB6 hR6 hb6 HB6 hb5
    have AO : Hid _ := ao
    have BO : Hid _ := bo
    clear ao bo
    by_cases p1 : b.mn < a.mn
    · by_cases p2 : a.mx < b.mx
      · cases hao : a.o with
        | true =>
          have HAO : Hid (a.o = true) := hao
          clear hao
          have pc : a.c = 18446744073709551615 := AO.out HAO.out
          have HEQ : Hid (mrg a b = ⟨18446744073709551615, true, a.s + b.s, b.mn, b.mx⟩) := by
            unfold Hid; rw [mrg_both a b h h2]; unfold cntF ovF minF maxF
            rw [if_neg (by omega), if_pos p1, if_pos p2, decide_eq_true (by omega), HAO.out] <;> simp
          have HRT : Hid (((((w6.setCell ⟨x, 4, none⟩ (.int .i64 b.mn)).setCell ⟨x, 5, none⟩ (.int .i64 b.mx)).setCell ⟨x, 1, none⟩ (.bool true)).setCell ⟨x, 0, none⟩ (.int .u64 18446744073709551615)).heap[w.heap.size + 1 + 1]? = some (.cells #[.int .u64 0, .bool false, .int .i64 0, .int .u64 0, .int .i64 0, .int .i64 0] 36)) := by unfold Hid; rw [Go.heap_setCell_other _ _ _ _ d2, Go.heap_setCell_other _ _ _ _ d2, Go.heap_setCell_other _ _ _ _ d2, Go.heap_setCell_other _ _ _ _ d2]; exact HRR.out
          have HBT : Hid (Below w.heap.size w ((((w6.setCell ⟨x, 4, none⟩ (.int .i64 b.mn)).setCell ⟨x, 5, none⟩ (.int .i64 b.mx)).setCell ⟨x, 1, none⟩ (.bool true)).setCell ⟨x, 0, none⟩ (.int .u64 18446744073709551615))) := ((((HBB.out.setCell hxn _).setCell hxn _).setCell hxn _).setCell hxn _)
          rw [HAO.out] at z1
          clear pc
          go_wp2_with fail
          exact bodyPost_ret (res_r rfl _ _ (w.heap.size + 1 + 1) _ rfl (run_loadVar_row _ (w.heap.size + 1 + 1) _ _ _ (0, 0) _ (set6' HRT.out _ _ _ _ _ _) Tryz.underlying36 rfl (by kernel_rfl))) rfl ⟨by rw [HEQ.out], below6' HBT.out (by omega) _ _ _ _ _ _⟩
        | false =>
          have HAO : Hid (a.o = false) := hao
          clear hao
          cases hbo : b.o with
          | true =>
            have HBO : Hid (b.o = true) := hbo
            clear hbo
            have pc : b.c = 18446744073709551615 := BO.out HBO.out
            have HEQ : Hid (mrg a b = ⟨18446744073709551615, true, a.s + b.s, b.mn, b.mx⟩) := by
              unfold Hid; rw [mrg_both a b h h2]; unfold cntF ovF minF maxF
              rw [if_neg (by omega), if_pos p1, if_pos p2, decide_eq_true (by omega), HAO.out, HBO.out] <;> simp
            have HRT : Hid (((((w6.setCell ⟨x, 4, none⟩ (.int .i64 b.mn)).setCell ⟨x, 5, none⟩ (.int .i64 b.mx)).setCell ⟨x, 1, none⟩ (.bool true)).setCell ⟨x, 0, none⟩ (.int .u64 18446744073709551615)).heap[w.heap.size + 1 + 1]? = some (.cells #[.int .u64 0, .bool false, .int .i64 0, .int .u64 0, .int .i64 0, .int .i64 0] 36)) := by unfold Hid; rw [Go.heap_setCell_other _ _ _ _ d2, Go.heap_setCell_other _ _ _ _ d2, Go.heap_setCell_other _ _ _ _ d2, Go.heap_setCell_other _ _ _ _ d2]; exact HRR.out
            have HBT : Hid (Below w.heap.size w ((((w6.setCell ⟨x, 4, none⟩ (.int .i64 b.mn)).setCell ⟨x, 5, none⟩ (.int .i64 b.mx)).setCell ⟨x, 1, none⟩ (.bool true)).setCell ⟨x, 0, none⟩ (.int .u64 18446744073709551615))) := ((((HBB.out.setCell hxn _).setCell hxn _).setCell hxn _).setCell hxn _)
            rw [HAO.out] at z1
            rw [HBO.out] at y1
            clear pc
            go_wp2_with fail
            exact bodyPost_ret (res_r rfl _ _ (w.heap.size + 1 + 1) _ rfl (run_loadVar_row _ (w.heap.size + 1 + 1) _ _ _ (0, 0) _ (set6' HRT.out _ _ _ _ _ _) Tryz.underlying36 rfl (by kernel_rfl))) rfl ⟨by rw [HEQ.out], below6' HBT.out (by omega) _ _ _ _ _ _⟩
          | false =>
            have HBO : Hid (b.o = false) := hbo
            clear hbo
            by_cases p3 : 18446744073709551615 - b.c < a.c
            · have HEQ : Hid (mrg a b = ⟨18446744073709551615, true, a.s + b.s, b.mn, b.mx⟩) := by
                unfold Hid; rw [mrg_both a b h h2]; unfold cntF ovF minF maxF
                rw [if_neg (by omega), if_pos p1, if_pos p2, decide_eq_true (by omega), HAO.out, HBO.out] <;> simp
              have HRT : Hid (((((w6.setCell ⟨x, 4, none⟩ (.int .i64 b.mn)).setCell ⟨x, 5, none⟩ (.int .i64 b.mx)).setCell ⟨x, 1, none⟩ (.bool true)).setCell ⟨x, 0, none⟩ (.int .u64 18446744073709551615)).heap[w.heap.size + 1 + 1]? = some (.cells #[.int .u64 0, .bool false, .int .i64 0, .int .u64 0, .int .i64 0, .int .i64 0] 36)) := by unfold Hid; rw [Go.heap_setCell_other _ _ _ _ d2, Go.heap_setCell_other _ _ _ _ d2, Go.heap_setCell_other _ _ _ _ d2, Go.heap_setCell_other _ _ _ _ d2]; exact HRR.out
              have HBT : Hid (Below w.heap.size w ((((w6.setCell ⟨x, 4, none⟩ (.int .i64 b.mn)).setCell ⟨x, 5, none⟩ (.int .i64 b.mx)).setCell ⟨x, 1, none⟩ (.bool true)).setCell ⟨x, 0, none⟩ (.int .u64 18446744073709551615))) := ((((HBB.out.setCell hxn _).setCell hxn _).setCell hxn _).setCell hxn _)
              rw [HAO.out] at z1
              rw [HBO.out] at y1
              go_wp2_with fail
              exact bodyPost_ret (res_r rfl _ _ (w.heap.size + 1 + 1) _ rfl (run_loadVar_row _ (w.heap.size + 1 + 1) _ _ _ (0, 0) _ (set6' HRT.out _ _ _ _ _ _) Tryz.underlying36 rfl (by kernel_rfl))) rfl ⟨by rw [HEQ.out], below6' HBT.out (by omega) _ _ _ _ _ _⟩
            · have HEQ : Hid (mrg a b = ⟨a.c + b.c, false, a.s + b.s, b.mn, b.mx⟩) := by
                unfold Hid; rw [mrg_both a b h h2]; unfold cntF ovF minF maxF
                rw [if_pos (by omega), if_pos p1, if_pos p2, decide_eq_false (by omega), HAO.out, HBO.out] <;> rfl
              have HRT : Hid ((((w6.setCell ⟨x, 4, none⟩ (.int .i64 b.mn)).setCell ⟨x, 5, none⟩ (.int .i64 b.mx)).setCell ⟨x, 0, none⟩ (.int .u64 (a.c + b.c))).heap[w.heap.size + 1 + 1]? = some (.cells #[.int .u64 0, .bool false, .int .i64 0, .int .u64 0, .int .i64 0, .int .i64 0] 36)) := by unfold Hid; rw [Go.heap_setCell_other _ _ _ _ d2, Go.heap_setCell_other _ _ _ _ d2, Go.heap_setCell_other _ _ _ _ d2]; exact HRR.out
              have HBT : Hid (Below w.heap.size w (((w6.setCell ⟨x, 4, none⟩ (.int .i64 b.mn)).setCell ⟨x, 5, none⟩ (.int .i64 b.mx)).setCell ⟨x, 0, none⟩ (.int .u64 (a.c + b.c)))) := (((HBB.out.setCell hxn _).setCell hxn _).setCell hxn _)
              rw [HAO.out] at z1
              rw [HBO.out] at y1
              go_wp2_with fail
              exact bodyPost_ret (res_r rfl _ _ (w.heap.size + 1 + 1) _ rfl (run_loadVar_row _ (w.heap.size + 1 + 1) _ _ _ (0, 0) _ (set6' HRT.out _ _ _ _ _ _) Tryz.underlying36 rfl (by kernel_rfl))) rfl ⟨by rw [HEQ.out], below6' HBT.out (by omega) _ _ _ _ _ _⟩
      · cases hao : a.o with
        | true =>
          have HAO : Hid (a.o = true) := hao
          clear hao
          have pc : a.c = 18446744073709551615 := AO.out HAO.out
          have HEQ : Hid (mrg a b = ⟨18446744073709551615, true, a.s + b.s, b.mn, a.mx⟩) := by
            unfold Hid; rw [mrg_both a b h h2]; unfold cntF ovF minF maxF
            rw [if_neg (by omega), if_pos p1, if_neg p2, decide_eq_true (by omega), HAO.out] <;> simp
          have HRT : Hid ((((w6.setCell ⟨x, 4, none⟩ (.int .i64 b.mn)).setCell ⟨x, 1, none⟩ (.bool true)).setCell ⟨x, 0, none⟩ (.int .u64 18446744073709551615)).heap[w.heap.size + 1 + 1]? = some (.cells #[.int .u64 0, .bool false, .int .i64 0, .int .u64 0, .int .i64 0, .int .i64 0] 36)) := by unfold Hid; rw [Go.heap_setCell_other _ _ _ _ d2, Go.heap_setCell_other _ _ _ _ d2, Go.heap_setCell_other _ _ _ _ d2]; exact HRR.out
          have HBT : Hid (Below w.heap.size w (((w6.setCell ⟨x, 4, none⟩ (.int .i64 b.mn)).setCell ⟨x, 1, none⟩ (.bool true)).setCell ⟨x, 0, none⟩ (.int .u64 18446744073709551615))) := (((HBB.out.setCell hxn _).setCell hxn _).setCell hxn _)
          rw [HAO.out] at z1
          clear pc
          go_wp2_with fail
          exact bodyPost_ret (res_r rfl _ _ (w.heap.size + 1 + 1) _ rfl (run_loadVar_row _ (w.heap.size + 1 + 1) _ _ _ (0, 0) _ (set6' HRT.out _ _ _ _ _ _) Tryz.underlying36 rfl (by kernel_rfl))) rfl ⟨by rw [HEQ.out], below6' HBT.out (by omega) _ _ _ _ _ _⟩
        | false =>
          have HAO : Hid (a.o = false) := hao
          clear hao
          cases hbo : b.o with
          | true =>
            have HBO : Hid (b.o = true) := hbo
            clear hbo
            have pc : b.c = 18446744073709551615 := BO.out HBO.out
            have HEQ : Hid (mrg a b = ⟨18446744073709551615, true, a.s + b.s, b.mn, a.mx⟩) := by
              unfold Hid; rw [mrg_both a b h h2]; unfold cntF ovF minF maxF
              rw [if_neg (by omega), if_pos p1, if_neg p2, decide_eq_true (by omega), HAO.out, HBO.out] <;> simp
            have HRT : Hid ((((w6.setCell ⟨x, 4, none⟩ (.int .i64 b.mn)).setCell ⟨x, 1, none⟩ (.bool true)).setCell ⟨x, 0, none⟩ (.int .u64 18446744073709551615)).heap[w.heap.size + 1 + 1]? = some (.cells #[.int .u64 0, .bool false, .int .i64 0, .int .u64 0, .int .i64 0, .int .i64 0] 36)) := by unfold Hid; rw [Go.heap_setCell_other _ _ _ _ d2, Go.heap_setCell_other _ _ _ _ d2, Go.heap_setCell_other _ _ _ _ d2]; exact HRR.out
            have HBT : Hid (Below w.heap.size w (((w6.setCell ⟨x, 4, none⟩ (.int .i64 b.mn)).setCell ⟨x, 1, none⟩ (.bool true)).setCell ⟨x, 0, none⟩ (.int .u64 18446744073709551615))) := (((HBB.out.setCell hxn _).setCell hxn _).setCell hxn _)
            rw [HAO.out] at z1
            rw [HBO.out] at y1
            clear pc
            go_wp2_with fail
            exact bodyPost_ret (res_r rfl _ _ (w.heap.size + 1 + 1) _ rfl (run_loadVar_row _ (w.heap.size + 1 + 1) _ _ _ (0, 0) _ (set6' HRT.out _ _ _ _ _ _) Tryz.underlying36 rfl (by kernel_rfl))) rfl ⟨by rw [HEQ.out], below6' HBT.out (by omega) _ _ _ _ _ _⟩
          | false =>
            have HBO : Hid (b.o = false) := hbo
            clear hbo
            by_cases p3 : 18446744073709551615 - b.c < a.c
            · have HEQ : Hid (mrg a b = ⟨18446744073709551615, true, a.s + b.s, b.mn, a.mx⟩) := by
                unfold Hid; rw [mrg_both a b h h2]; unfold cntF ovF minF maxF
                rw [if_neg (by omega), if_pos p1, if_neg p2, decide_eq_true (by omega), HAO.out, HBO.out] <;> simp
              have HRT : Hid ((((w6.setCell ⟨x, 4, none⟩ (.int .i64 b.mn)).setCell ⟨x, 1, none⟩ (.bool true)).setCell ⟨x, 0, none⟩ (.int .u64 18446744073709551615)).heap[w.heap.size + 1 + 1]? = some (.cells #[.int .u64 0, .bool false, .int .i64 0, .int .u64 0, .int .i64 0, .int .i64 0] 36)) := by unfold Hid; rw [Go.heap_setCell_other _ _ _ _ d2, Go.heap_setCell_other _ _ _ _ d2, Go.heap_setCell_other _ _ _ _ d2]; exact HRR.out
              have HBT : Hid (Below w.heap.size w (((w6.setCell ⟨x, 4, none⟩ (.int .i64 b.mn)).setCell ⟨x, 1, none⟩ (.bool true)).setCell ⟨x, 0, none⟩ (.int .u64 18446744073709551615))) := (((HBB.out.setCell hxn _).setCell hxn _).setCell hxn _)
              rw [HAO.out] at z1
              rw [HBO.out] at y1
              go_wp2_with fail
              exact bodyPost_ret (res_r rfl _ _ (w.heap.size + 1 + 1) _ rfl (run_loadVar_row _ (w.heap.size + 1 + 1) _ _ _ (0, 0) _ (set6' HRT.out _ _ _ _ _ _) Tryz.underlying36 rfl (by kernel_rfl))) rfl ⟨by rw [HEQ.out], below6' HBT.out (by omega) _ _ _ _ _ _⟩
            · have HEQ : Hid (mrg a b = ⟨a.c + b.c, false, a.s + b.s, b.mn, a.mx⟩) := by
                unfold Hid; rw [mrg_both a b h h2]; unfold cntF ovF minF maxF
                rw [if_pos (by omega), if_pos p1, if_neg p2, decide_eq_false (by omega), HAO.out, HBO.out] <;> rfl
              have HRT : Hid (((w6.setCell ⟨x, 4, none⟩ (.int .i64 b.mn)).setCell ⟨x, 0, none⟩ (.int .u64 (a.c + b.c))).heap[w.heap.size + 1 + 1]? = some (.cells #[.int .u64 0, .bool false, .int .i64 0, .int .u64 0, .int .i64 0, .int .i64 0] 36)) := by unfold Hid; rw [Go.heap_setCell_other _ _ _ _ d2, Go.heap_setCell_other _ _ _ _ d2]; exact HRR.out
              have HBT : Hid (Below w.heap.size w ((w6.setCell ⟨x, 4, none⟩ (.int .i64 b.mn)).setCell ⟨x, 0, none⟩ (.int .u64 (a.c + b.c)))) := ((HBB.out.setCell hxn _).setCell hxn _)
              rw [HAO.out] at z1
              rw [HBO.out] at y1
              go_wp2_with fail
              exact bodyPost_ret (res_r rfl _ _ (w.heap.size + 1 + 1) _ rfl (run_loadVar_row _ (w.heap.size + 1 + 1) _ _ _ (0, 0) _ (set6' HRT.out _ _ _ _ _ _) Tryz.underlying36 rfl (by kernel_rfl))) rfl ⟨by rw [HEQ.out], below6' HBT.out (by omega) _ _ _ _ _ _⟩
    · by_cases p2 : a.mx < b.mx
      · cases hao : a.o with
        | true =>
          have HAO : Hid (a.o = true) := hao
          clear hao
          have pc : a.c = 18446744073709551615 := AO.out HAO.out
          have HEQ : Hid (mrg a b = ⟨18446744073709551615, true, a.s + b.s, a.mn, b.mx⟩) := by
            unfold Hid; rw [mrg_both a b h h2]; unfold cntF ovF minF maxF
            rw [if_neg (by omega), if_neg p1, if_pos p2, decide_eq_true (by omega), HAO.out] <;> simp
          have HRT : Hid ((((w6.setCell ⟨x, 5, none⟩ (.int .i64 b.mx)).setCell ⟨x, 1, none⟩ (.bool true)).setCell ⟨x, 0, none⟩ (.int .u64 18446744073709551615)).heap[w.heap.size + 1 + 1]? = some (.cells #[.int .u64 0, .bool false, .int .i64 0, .int .u64 0, .int .i64 0, .int .i64 0] 36)) := by unfold Hid; rw [Go.heap_setCell_other _ _ _ _ d2, Go.heap_setCell_other _ _ _ _ d2, Go.heap_setCell_other _ _ _ _ d2]; exact HRR.out
          have HBT : Hid (Below w.heap.size w (((w6.setCell ⟨x, 5, none⟩ (.int .i64 b.mx)).setCell ⟨x, 1, none⟩ (.bool true)).setCell ⟨x, 0, none⟩ (.int .u64 18446744073709551615))) := (((HBB.out.setCell hxn _).setCell hxn _).setCell hxn _)
          rw [HAO.out] at z1
          clear pc
          go_wp2_with fail
          exact bodyPost_ret (res_r rfl _ _ (w.heap.size + 1 + 1) _ rfl (run_loadVar_row _ (w.heap.size + 1 + 1) _ _ _ (0, 0) _ (set6' HRT.out _ _ _ _ _ _) Tryz.underlying36 rfl (by kernel_rfl))) rfl ⟨by rw [HEQ.out], below6' HBT.out (by omega) _ _ _ _ _ _⟩
        | false =>
          have HAO : Hid (a.o = false) := hao
          clear hao
          cases hbo : b.o with
          | true =>
            have HBO : Hid (b.o = true) := hbo
            clear hbo
            have pc : b.c = 18446744073709551615 := BO.out HBO.out
            have HEQ : Hid (mrg a b = ⟨18446744073709551615, true, a.s + b.s, a.mn, b.mx⟩) := by
              unfold Hid; rw [mrg_both a b h h2]; unfold cntF ovF minF maxF
              rw [if_neg (by omega), if_neg p1, if_pos p2, decide_eq_true (by omega), HAO.out, HBO.out] <;> simp
            have HRT : Hid ((((w6.setCell ⟨x, 5, none⟩ (.int .i64 b.mx)).setCell ⟨x, 1, none⟩ (.bool true)).setCell ⟨x, 0, none⟩ (.int .u64 18446744073709551615)).heap[w.heap.size + 1 + 1]? = some (.cells #[.int .u64 0, .bool false, .int .i64 0, .int .u64 0, .int .i64 0, .int .i64 0] 36)) := by unfold Hid; rw [Go.heap_setCell_other _ _ _ _ d2, Go.heap_setCell_other _ _ _ _ d2, Go.heap_setCell_other _ _ _ _ d2]; exact HRR.out
            have HBT : Hid (Below w.heap.size w (((w6.setCell ⟨x, 5, none⟩ (.int .i64 b.mx)).setCell ⟨x, 1, none⟩ (.bool true)).setCell ⟨x, 0, none⟩ (.int .u64 18446744073709551615))) := (((HBB.out.setCell hxn _).setCell hxn _).setCell hxn _)
            rw [HAO.out] at z1
            rw [HBO.out] at y1
            clear pc
            go_wp2_with fail
            exact bodyPost_ret (res_r rfl _ _ (w.heap.size + 1 + 1) _ rfl (run_loadVar_row _ (w.heap.size + 1 + 1) _ _ _ (0, 0) _ (set6' HRT.out _ _ _ _ _ _) Tryz.underlying36 rfl (by kernel_rfl))) rfl ⟨by rw [HEQ.out], below6' HBT.out (by omega) _ _ _ _ _ _⟩
          | false =>
            have HBO : Hid (b.o = false) := hbo
            clear hbo
            by_cases p3 : 18446744073709551615 - b.c < a.c
            · have HEQ : Hid (mrg a b = ⟨18446744073709551615, true, a.s + b.s, a.mn, b.mx⟩) := by
                unfold Hid; rw [mrg_both a b h h2]; unfold cntF ovF minF maxF
                rw [if_neg (by omega), if_neg p1, if_pos p2, decide_eq_true (by omega), HAO.out, HBO.out] <;> simp
              have HRT : Hid ((((w6.setCell ⟨x, 5, none⟩ (.int .i64 b.mx)).setCell ⟨x, 1, none⟩ (.bool true)).setCell ⟨x, 0, none⟩ (.int .u64 18446744073709551615)).heap[w.heap.size + 1 + 1]? = some (.cells #[.int .u64 0, .bool false, .int .i64 0, .int .u64 0, .int .i64 0, .int .i64 0] 36)) := by unfold Hid; rw [Go.heap_setCell_other _ _ _ _ d2, Go.heap_setCell_other _ _ _ _ d2, Go.heap_setCell_other _ _ _ _ d2]; exact HRR.out
              have HBT : Hid (Below w.heap.size w (((w6.setCell ⟨x, 5, none⟩ (.int .i64 b.mx)).setCell ⟨x, 1, none⟩ (.bool true)).setCell ⟨x, 0, none⟩ (.int .u64 18446744073709551615))) := (((HBB.out.setCell hxn _).setCell hxn _).setCell hxn _)
              rw [HAO.out] at z1
              rw [HBO.out] at y1
              go_wp2_with fail
              exact bodyPost_ret (res_r rfl _ _ (w.heap.size + 1 + 1) _ rfl (run_loadVar_row _ (w.heap.size + 1 + 1) _ _ _ (0, 0) _ (set6' HRT.out _ _ _ _ _ _) Tryz.underlying36 rfl (by kernel_rfl))) rfl ⟨by rw [HEQ.out], below6' HBT.out (by omega) _ _ _ _ _ _⟩
            · have HEQ : Hid (mrg a b = ⟨a.c + b.c, false, a.s + b.s, a.mn, b.mx⟩) := by
                unfold Hid; rw [mrg_both a b h h2]; unfold cntF ovF minF maxF
                rw [if_pos (by omega), if_neg p1, if_pos p2, decide_eq_false (by omega), HAO.out, HBO.out] <;> rfl
              have HRT : Hid (((w6.setCell ⟨x, 5, none⟩ (.int .i64 b.mx)).setCell ⟨x, 0, none⟩ (.int .u64 (a.c + b.c))).heap[w.heap.size + 1 + 1]? = some (.cells #[.int .u64 0, .bool false, .int .i64 0, .int .u64 0, .int .i64 0, .int .i64 0] 36)) := by unfold Hid; rw [Go.heap_setCell_other _ _ _ _ d2, Go.heap_setCell_other _ _ _ _ d2]; exact HRR.out
              have HBT : Hid (Below w.heap.size w ((w6.setCell ⟨x, 5, none⟩ (.int .i64 b.mx)).setCell ⟨x, 0, none⟩ (.int .u64 (a.c + b.c)))) := ((HBB.out.setCell hxn _).setCell hxn _)
              rw [HAO.out] at z1
              rw [HBO.out] at y1
              go_wp2_with fail
              exact bodyPost_ret (res_r rfl _ _ (w.heap.size + 1 + 1) _ rfl (run_loadVar_row _ (w.heap.size + 1 + 1) _ _ _ (0, 0) _ (set6' HRT.out _ _ _ _ _ _) Tryz.underlying36 rfl (by kernel_rfl))) rfl ⟨by rw [HEQ.out], below6' HBT.out (by omega) _ _ _ _ _ _⟩
      · cases hao : a.o with
        | true =>
          have HAO : Hid (a.o = true) := hao
          clear hao
          have pc : a.c = 18446744073709551615 := AO.out HAO.out
          have HEQ : Hid (mrg a b = ⟨18446744073709551615, true, a.s + b.s, a.mn, a.mx⟩) := by
            unfold Hid; rw [mrg_both a b h h2]; unfold cntF ovF minF maxF
            rw [if_neg (by omega), if_neg p1, if_neg p2, decide_eq_true (by omega), HAO.out] <;> simp
          have HRT : Hid (((w6.setCell ⟨x, 1, none⟩ (.bool true)).setCell ⟨x, 0, none⟩ (.int .u64 18446744073709551615)).heap[w.heap.size + 1 + 1]? = some (.cells #[.int .u64 0, .bool false, .int .i64 0, .int .u64 0, .int .i64 0, .int .i64 0] 36)) := by unfold Hid; rw [Go.heap_setCell_other _ _ _ _ d2, Go.heap_setCell_other _ _ _ _ d2]; exact HRR.out
          have HBT : Hid (Below w.heap.size w ((w6.setCell ⟨x, 1, none⟩ (.bool true)).setCell ⟨x, 0, none⟩ (.int .u64 18446744073709551615))) := ((HBB.out.setCell hxn _).setCell hxn _)
          rw [HAO.out] at z1
          clear pc
          go_wp2_with fail
          exact bodyPost_ret (res_r rfl _ _ (w.heap.size + 1 + 1) _ rfl (run_loadVar_row _ (w.heap.size + 1 + 1) _ _ _ (0, 0) _ (set6' HRT.out _ _ _ _ _ _) Tryz.underlying36 rfl (by kernel_rfl))) rfl ⟨by rw [HEQ.out], below6' HBT.out (by omega) _ _ _ _ _ _⟩
        | false =>
          have HAO : Hid (a.o = false) := hao
          clear hao
          cases hbo : b.o with
          | true =>
            have HBO : Hid (b.o = true) := hbo
            clear hbo
            have pc : b.c = 18446744073709551615 := BO.out HBO.out
            have HEQ : Hid (mrg a b = ⟨18446744073709551615, true, a.s + b.s, a.mn, a.mx⟩) := by
              unfold Hid; rw [mrg_both a b h h2]; unfold cntF ovF minF maxF
              rw [if_neg (by omega), if_neg p1, if_neg p2, decide_eq_true (by omega), HAO.out, HBO.out] <;> simp
            have HRT : Hid (((w6.setCell ⟨x, 1, none⟩ (.bool true)).setCell ⟨x, 0, none⟩ (.int .u64 18446744073709551615)).heap[w.heap.size + 1 + 1]? = some (.cells #[.int .u64 0, .bool false, .int .i64 0, .int .u64 0, .int .i64 0, .int .i64 0] 36)) := by unfold Hid; rw [Go.heap_setCell_other _ _ _ _ d2, Go.heap_setCell_other _ _ _ _ d2]; exact HRR.out
            have HBT : Hid (Below w.heap.size w ((w6.setCell ⟨x, 1, none⟩ (.bool true)).setCell ⟨x, 0, none⟩ (.int .u64 18446744073709551615))) := ((HBB.out.setCell hxn _).setCell hxn _)
            rw [HAO.out] at z1
            rw [HBO.out] at y1
            clear pc
            go_wp2_with fail
            exact bodyPost_ret (res_r rfl _ _ (w.heap.size + 1 + 1) _ rfl (run_loadVar_row _ (w.heap.size + 1 + 1) _ _ _ (0, 0) _ (set6' HRT.out _ _ _ _ _ _) Tryz.underlying36 rfl (by kernel_rfl))) rfl ⟨by rw [HEQ.out], below6' HBT.out (by omega) _ _ _ _ _ _⟩
          | false =>
            have HBO : Hid (b.o = false) := hbo
            clear hbo
            by_cases p3 : 18446744073709551615 - b.c < a.c
            · have HEQ : Hid (mrg a b = ⟨18446744073709551615, true, a.s + b.s, a.mn, a.mx⟩) := by
                unfold Hid; rw [mrg_both a b h h2]; unfold cntF ovF minF maxF
                rw [if_neg (by omega), if_neg p1, if_neg p2, decide_eq_true (by omega), HAO.out, HBO.out] <;> simp
              have HRT : Hid (((w6.setCell ⟨x, 1, none⟩ (.bool true)).setCell ⟨x, 0, none⟩ (.int .u64 18446744073709551615)).heap[w.heap.size + 1 + 1]? = some (.cells #[.int .u64 0, .bool false, .int .i64 0, .int .u64 0, .int .i64 0, .int .i64 0] 36)) := by unfold Hid; rw [Go.heap_setCell_other _ _ _ _ d2, Go.heap_setCell_other _ _ _ _ d2]; exact HRR.out
              have HBT : Hid (Below w.heap.size w ((w6.setCell ⟨x, 1, none⟩ (.bool true)).setCell ⟨x, 0, none⟩ (.int .u64 18446744073709551615))) := ((HBB.out.setCell hxn _).setCell hxn _)
              rw [HAO.out] at z1
              rw [HBO.out] at y1
              go_wp2_with fail
              exact bodyPost_ret (res_r rfl _ _ (w.heap.size + 1 + 1) _ rfl (run_loadVar_row _ (w.heap.size + 1 + 1) _ _ _ (0, 0) _ (set6' HRT.out _ _ _ _ _ _) Tryz.underlying36 rfl (by kernel_rfl))) rfl ⟨by rw [HEQ.out], below6' HBT.out (by omega) _ _ _ _ _ _⟩
            · have HEQ : Hid (mrg a b = ⟨a.c + b.c, false, a.s + b.s, a.mn, a.mx⟩) := by
                unfold Hid; rw [mrg_both a b h h2]; unfold cntF ovF minF maxF
                rw [if_pos (by omega), if_neg p1, if_neg p2, decide_eq_false (by omega), HAO.out, HBO.out] <;> rfl
              have HRT : Hid ((w6.setCell ⟨x, 0, none⟩ (.int .u64 (a.c + b.c))).heap[w.heap.size + 1 + 1]? = some (.cells #[.int .u64 0, .bool false, .int .i64 0, .int .u64 0, .int .i64 0, .int .i64 0] 36)) := by unfold Hid; rw [Go.heap_setCell_other _ _ _ _ d2]; exact HRR.out
              have HBT : Hid (Below w.heap.size w (w6.setCell ⟨x, 0, none⟩ (.int .u64 (a.c + b.c)))) := (HBB.out.setCell hxn _)
              rw [HAO.out] at z1
              rw [HBO.out] at y1
              go_wp2_with fail
              exact bodyPost_ret (res_r rfl _ _ (w.heap.size + 1 + 1) _ rfl (run_loadVar_row _ (w.heap.size + 1 + 1) _ _ _ (0, 0) _ (set6' HRT.out _ _ _ _ _ _) Tryz.underlying36 rfl (by kernel_rfl))) rfl ⟨by rw [HEQ.out], below6' HBT.out (by omega) _ _ _ _ _ _⟩
theorem refMerge_any (a b : Ag) (a1 : 0 ≤ a.c) (a2 : a.c < 18446744073709551616) (b1 : 0 ≤ b.c) (b2 : b.c < 18446744073709551616) (ao : a.o = true → a.c = 18446744073709551615) (bo : b.o = true → b.c = 18446744073709551615) (w : World) :
    Calls Tryz.prog 29 #[.agg #[.int .u64 a.c, .bool a.o, .int .i64 (hi a.s), .int .u64 (lo a.s), .int .i64 a.mn, .int .i64 a.mx], .agg #[.int .u64 b.c, .bool b.o, .int .i64 (hi b.s), .int .u64 (lo b.s), .int .i64 b.mn, .int .i64 b.mx]] w fun e w' => e = .returned (.agg #[.int .u64 (mrg a b).c, .bool (mrg a b).o, .int .i64 (hi (mrg a b).s), .int .u64 (lo (mrg a b).s), .int .i64 (mrg a b).mn, .int .i64 (mrg a b).mx]) ∧ Below w.heap.size w w' := by
  by_cases h : a.c = 0
  · exact refMerge_left a b h w
  · by_cases h2 : b.c = 0
    · exact refMerge_right a b h h2 w
    · exact refMerge_both a b h h2 a1 a2 b1 b2 ao bo w
end Go.Proofs.YtoenijflijfogaaGreat

/- The contract of the reference's One (out of RM2). -/
namespace Go.Proofs.YtoenijflijfogaaGreat
open Go.RowKit

set_option maxRecDepth 100000 in
set_option maxHeartbeats 1000000 in
theorem refOne_any (v : Int) (h1 : -9223372036854775808 ≤ v) (h2 : v ≤ 9223372036854775807) (w : World) :
    Calls Tryz.prog 44 #[.int .i64 v] w fun e w' => e = .returned (.agg #[.int .u64 (oneF v).c, .bool (oneF v).o, .int .i64 (hi (oneF v).s), .int .u64 (lo (oneF v).s), .int .i64 (oneF v).mn, .int .i64 (oneF v).mx]) ∧ Below w.heap.size w w' := by
  obtain ⟨O, HO⟩ := hid_ex (oneF v)
  have HOE : Hid (O.c = 1 ∧ O.o = false ∧ O.s = v ∧ O.mn = v ∧ O.mx = v) := by rw [HO.out]; exact ⟨rfl, rfl, rfl, rfl, rfl⟩
  rw [← HO.out]
  clear HO
  go_enter Tryz.func44, Tryz.ntmps44
  go_wp2_with fail
  refine (refOf_any v h1 h2 _).mono ?_
  rintro e w1 ⟨rfl, hb1⟩
  have HZ : Hid (w1.heap[w.heap.size]? = some (.cells #[.int .u64 0, .bool false, .int .i64 0, .int .u64 0, .int .i64 0, .int .i64 0] 36)) := (hb1.block _ (by simp)).trans (heap_alloc_new w _)
  have HB : Hid (Below w.heap.size w w1) := ((Below.refl _ _).alloc (Nat.le_refl _) _).trans (hb1.mono (by simp))
  clear hb1
  have z0 := c_rw HZ.out 0 (by simp)
  have z1 := c_rw HZ.out 1 (by simp)
  have z2 := c_rw HZ.out 2 (by simp)
  have z3 := c_rw HZ.out 3 (by simp)
  have z4 := c_rw HZ.out 4 (by simp)
  have z5 := c_rw HZ.out 5 (by simp)
  simp only [List.getElem_toArray, List.getElem_cons_succ, List.getElem_cons_zero] at z0 z1 z2 z3 z4 z5
  have f0 := f_rw HZ.out 0
  have f1 := f_rw HZ.out 1
  have f2 := f_rw HZ.out 2
  have f3 := f_rw HZ.out 3
  have f4 := f_rw HZ.out 4
  have f5 := f_rw HZ.out 5
  unfold wv
  go_wp2_with fail
  exact bodyPost_ret (res_r rfl _ _ w.heap.size _ rfl (run_loadVar_row _ w.heap.size _ _ _ (0, 0) _ (set6' HZ.out _ _ _ _ _ _) Tryz.underlying36 rfl (by kernel_rfl))) rfl ⟨by rw [HOE.out.1, HOE.out.2.1, HOE.out.2.2.1, HOE.out.2.2.2.1, HOE.out.2.2.2.2], below6' HB.out (Nat.le_refl _) _ _ _ _ _ _⟩
end Go.Proofs.YtoenijflijfogaaGreat
