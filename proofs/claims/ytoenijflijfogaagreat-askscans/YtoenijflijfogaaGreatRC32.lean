/- AQU, joined. -/
import Derived.Test.YtoenijflijfogaaGreatRC31
/- Layer 17: the contract of ask.Rollup. -/
namespace Go.Proofs.YtoenijflijfogaaGreat
open Go.RowKit Go.Maps Go.Sort

/-- What Rollup says. -/
noncomputable def rlE (R : Rl) (wm : Int) (L : List En) (mk f t : Int) : Int := if chkF R wm L ≠ 0 then chkF R wm L else if mk < 0 then 1 else if 0 ≤ f ∧ f ≤ t ∧ t ≤ 1099511627776 then 0 else 1
noncomputable def rlQ (R : Rl) (wm : Int) (L : List En) (mk f t : Int) : List Rw := if rlE R wm L mk f t = 0 then rollF mk.toNat f t (rowsE R wm L) else []
theorem rlE_chk {R : Rl} {wm : Int} {L : List En} {mk f t : Int} (h : chkF R wm L ≠ 0) : rlE R wm L mk f t = chkF R wm L ∧ rlQ R wm L mk f t = [] := by
  have : rlE R wm L mk f t = chkF R wm L := by unfold rlE; rw [if_pos h]
  exact ⟨this, by unfold rlQ; rw [this, if_neg h]⟩
theorem rlE_neg {R : Rl} {wm : Int} {L : List En} {mk f t : Int} (h : chkF R wm L = 0) (h2 : mk < 0) : rlE R wm L mk f t = 1 ∧ rlQ R wm L mk f t = [] := by
  have : rlE R wm L mk f t = 1 := by unfold rlE; rw [if_neg (by simp [h]), if_pos h2]
  exact ⟨this, by unfold rlQ; rw [this, if_neg (by decide)]⟩
theorem rlE_rng {R : Rl} {wm : Int} {L : List En} {mk f t : Int} (h : chkF R wm L = 0) (h2 : ¬ mk < 0) (h3 : ¬ (0 ≤ f ∧ f ≤ t ∧ t ≤ 1099511627776)) : rlE R wm L mk f t = 1 ∧ rlQ R wm L mk f t = [] := by
  have : rlE R wm L mk f t = 1 := by unfold rlE; rw [if_neg (by simp [h]), if_neg h2, if_neg h3]
  exact ⟨this, by unfold rlQ; rw [this, if_neg (by decide)]⟩
theorem rlE_ok {R : Rl} {wm : Int} {L : List En} {mk f t : Int} (h : chkF R wm L = 0) (h2 : ¬ mk < 0) (h3 : 0 ≤ f ∧ f ≤ t ∧ t ≤ 1099511627776) : rlE R wm L mk f t = 0 ∧ rlQ R wm L mk f t = rollF mk.toNat f t (rowsE R wm L) := by
  have : rlE R wm L mk f t = 0 := by unfold rlE; rw [if_neg (by simp [h]), if_neg h2, if_pos h3]
  exact ⟨this, by unfold rlQ; rw [this, if_pos rfl]⟩
set_option maxRecDepth 100000 in
set_option maxHeartbeats 4000000 in
theorem roll17_any (R : Rl) (wm : Int) (v : Value) (L : List En) (mk f t : Int) (w : World) (hL : Lies R w.heap.size w) (hE : EReads w v L) (hl : L.length ≤ 100000) (hk : ∀ x ∈ L, x.1.length ≤ 1000) (hmr : mk ≤ 9223372036854775807) :
    Calls Tryz.prog 16 #[.agg #[.slice R.a R.len R.cap, .int .i64 R.kp], .int .i64 wm, v, .int .i64 mk, .int .i64 f, .int .i64 t] w (RwPost (rlQ R wm L mk f t) (rlE R wm L mk f t) w) := by
  obtain ⟨a, cap, rfl, hm1, hm2⟩ := hE.form
  obtain ⟨w1, HW1⟩ := hid_ex (w.alloc (.cells #[.slice R.a R.len R.cap, .int .i64 R.kp] 24))
  have hb1 : Below w.heap.size w w1 := by rw [HW1.out]; exact (Below.refl _ _).alloc (Nat.le_refl _) _
  have hX1 : w1.heap[w.heap.size]? = some (.cells #[.slice R.a R.len R.cap, .int .i64 R.kp] 24) := by rw [HW1.out]; exact heap_alloc_new _ _
  have c0 := (cell_row hX1 0 (by simp)).1
  have c1 := (cell_row hX1 1 (by simp)).1
  simp only [List.getElem_toArray, List.getElem_cons_zero, List.getElem_cons_succ] at c0 c1
  have HB1 : Hid (Below w.heap.size w w1) := hb1
  have HF : Hid (Calls Tryz.prog 22 #[.agg #[.slice R.a R.len R.cap, .int .i64 R.kp], .int .i64 wm, .slice a L.length cap] w1 (F17 R wm L w1)) := folded17_any R wm _ L _ (hL.at hb1) (hE.below hb1) hl hk
  have HLE : Hid ((rowsE R wm L).length ≤ 100000) := Nat.le_trans (rowsE_len R wm L) hl
  clear hL hE hl hk hb1 hX1
  obtain ⟨q, HQ⟩ := hid_ex (rlQ R wm L mk f t)
  obtain ⟨c, HC⟩ := hid_ex (rlE R wm L mk f t)
  rw [← HQ.out, ← HC.out]
  go_enter Tryz.func16, Tryz.ntmps16
  go_wp2_with fail
  rw [← HW1.out]
  clear HW1
  refine HF.out.mono ?_
  clear HF c0 c1
  rintro e w2 ⟨hb2, ⟨hne, rfl⟩ | ⟨hz, g, xs, rfl, hT, hm, hok⟩⟩
  · have hb0 : (chkF R wm L == 0) = false := by simp [hne]
    have hb0' : (chkF R wm L != 0) = true := by simp [hne]
    obtain ⟨h1, h2⟩ := rlE_chk (mk := mk) (f := f) (t := t) hne
    rw [← HC.out] at h1
    rw [← HQ.out] at h2
    subst h2
    have HEnd : Hid (RwPost [] c w (.returned (.tuple #[.slice none 0 0, .int .i64 (chkF R wm L)])) w2) := by rw [← h1]; exact RwPost.none (HB1.out.trans (hb2.mono HB1.out.size))
    clear hne hb2 h1 HC
    generalize chkF R wm L = rr at *
    go_wp2_with fail
    go_ret2
    exact HEnd.out
  · have HB2 : Hid (Below w.heap.size w w2) := HB1.out.trans (hb2.mono HB1.out.size)
    have HZ : Hid (chkF R wm L = 0) := hz
    have HOK : Hid (∀ x ∈ xs, RwOk x) := hok
    have HM : Hid (xs.map itR = rowsE R wm L) := hm
    have HXL : Hid (xs.length ≤ 100000) := by have := HLE.out; rw [← hm, List.length_map] at this; exact this
    obtain ⟨n, Hn⟩ := hid_ex xs.length
    rw [← Hn.out] at hT HXL ⊢
    have HT2 : Hid (TReads w2 (.slice (some ⟨g, 0, none⟩) n n) xs) := hT
    have hnl := HXL.out
    clear hz hok hm hT hb2 HB1
    by_cases hmk : mk < 0
    · obtain ⟨h1, h2⟩ := rlE_neg (f := f) (t := t) HZ.out hmk
      rw [← HC.out] at h1
      rw [← HQ.out] at h2
      subst h2
      have HEnd : Hid (RwPost [] c w (.returned (.tuple #[.slice none 0 0, .int .i64 1])) w2) := by rw [← h1]; exact RwPost.none HB2.out
      clear h1 HC
      go_wp2_with fail
      go_ret2
      exact HEnd.out
    · by_cases hrg : 0 ≤ f ∧ f ≤ t ∧ t ≤ 1099511627776
      · obtain ⟨h1, h2⟩ := rlE_ok (f := f) (t := t) HZ.out hmk hrg
        rw [← HC.out] at h1
        rw [← HQ.out] at h2
        subst h1
        obtain ⟨mn, rfl⟩ : ∃ mn : Nat, mk = (mn : Int) := ⟨mk.toNat, by omega⟩
        rw [Int.toNat_natCast] at h2
        have HQ2 : Hid (q = rollF mn f t (xs.map itR)) := by show q = _; rw [HM.out]; exact h2
        have HIR := isRange_any f t w2
        rw [decide_eq_true hrg] at HIR
        have HIR2 : Hid (Calls Tryz.prog 31 #[.int .i64 f, .int .i64 t] w2 fun e w' => e = .returned (.bool true) ∧ w' = w2) := HIR
        have hrg' : Hid (0 ≤ f ∧ f ≤ t ∧ t ≤ 1099511627776) := hrg
        have hmn : mn < 9223372036854775808 := by omega
        clear h2 HC HQ HIR HM HZ hrg
        go_wp2_with fail
        refine HIR2.out.mono ?_
        rintro e w' ⟨rfl, hw'⟩
        subst w'
        clear HIR2
        obtain ⟨w3, HW3⟩ := hid_ex (w2.alloc (.map #[] 0))
        have hb3 : Below w2.heap.size w2 w3 := by rw [HW3.out]; exact (Below.refl _ _).alloc (Nat.le_refl _) _
        have HI0 : Hid (RlI w2 w2.heap.size mn f t (xs.map itR) 0 [] w3) := ⟨by rw [HW3.out]; exact VMap.new w2, by rw [List.take_zero]; rfl, (fun y hy => by cases hy), (fun y hy => by cases hy), hb3⟩
        have hmm := @run_makeMap Tryz.prog
        clear hb3
        go_wp2_with fail
        rw [← HW3.out]
        clear HW3 hmm
        go_loopw [45] (fun i wr => ∃ (k : Nat) (P : List It), k ≤ n ∧ i = .int .i64 (k : Int) ∧ Hid (RlI w2 w2.heap.size mn f t (xs.map itR) k P wr)) (fun i _ => n - (intOf i).toNat)
        case atStart => exact ⟨0, [], by omega, rfl, HI0⟩
        case round =>
          clear HI0
          obtain ⟨k, P, hk, rfl, HG⟩ := hrel
          by_cases hlt : k < n
          · have hkx : k < xs.length := by rw [← Hn.out]; exact hlt
            have hkm : k < (xs.map itR).length := by rw [List.length_map]; exact hkx
            obtain ⟨b, off, hgb, hbl, hc9, hsr⟩ := TReads.at HT2.out hkx
            simp only [Option.some.injEq, Addr.mk.injEq] at hgb
            obtain ⟨rfl, hoff, _⟩ := hgb
            subst hoff
            have hokx := HOK.out xs[k] (List.getElem_mem hkx)
            have HNO : Hid (inR f t (itR xs[k]) = false → ∀ W, Below wr.heap.size wr W → RlI w2 w2.heap.size mn f t (xs.map itR) (k + 1) P W) := fun hi W hW => (HG.out.below hW).skip hkm (by rw [List.getElem_map]; exact hi)
            have HPUT : Hid (inR f t (itR xs[k]) = true → ∀ (w W : World) (x : It), RlI w2 w2.heap.size mn f t (xs.map itR) k P w → itR x = pR mn f t (itR xs[k]) → VMap W w2.heap.size (vPut (jn x.D, v9 { x with a := mrg (aggI x.D P) x.a }) (vlI P)) → w.mapTurned W w2.heap.size → SReads w x.v x.D → RwOk x → RlI w2 w2.heap.size mn f t (xs.map itR) (k + 1) (insI x P) W) := fun hi w W x h1 h2 h3 h4 h5 h6 => h1.put hkm (by rw [List.getElem_map]; exact hi) (by rw [List.getElem_map]; exact h2) h3 h4 h5 h6
            obtain ⟨X, HX⟩ := hid_ex xs[k]
            rw [← HX.out] at hc9 hsr hokx HNO HPUT
            obtain ⟨xv, xD, xf, xz, xg⟩ := X
            obtain ⟨va, vc, hv, hxl⟩ := hsr.form
            simp only at hv
            subst hv
            have hb2r : Below w2.heap.size w2 wr := HG.out.b
            have hy : ∀ i (hi : i < 9), wr.cell? ⟨g, k * 9 + i, none⟩ = some ((c9 ⟨.slice va xD.length vc, xD, xf, xz, xg⟩)[i]'hi) := fun i hi => by
              have := hc9 i hi
              rw [Nat.zero_add] at this
              exact (hb2r.cell (p := ⟨g, k * 9 + i, none⟩) hbl).trans this
            have y0 := hy 0 (by decide)
            have y1 := hy 1 (by decide)
            have y2 := hy 2 (by decide)
            have y3 := hy 3 (by decide)
            have y4 := hy 4 (by decide)
            have y5 := hy 5 (by decide)
            have y6 := hy 6 (by decide)
            have y7 := hy 7 (by decide)
            have y8 := hy 8 (by decide)
            simp only [c9, List.getElem_cons_zero, List.getElem_cons_succ, Nat.add_zero] at y0 y1 y2 y3 y4 y5 y6 y7 y8
            obtain ⟨hf0, hf1⟩ := hokx.f
            obtain ⟨hz0, hz1⟩ := hokx.z
            simp only at hf0 hf1 hz0 hz1
            have HOX : Hid (RwOk ⟨.slice va xD.length vc, xD, xf, xz, xg⟩) := hokx
            obtain ⟨w5, HW5⟩ := hid_ex (wr.alloc (.cells #[.slice va xD.length vc, .int .i64 xf, .int .i64 (xz : Int), .int .u64 xg.c, .bool xg.o, .int .i64 (hi xg.s), .int .u64 (lo xg.s), .int .i64 xg.mn, .int .i64 xg.mx] 38))
            have hb5 : Below wr.heap.size wr w5 := by rw [HW5.out]; exact new_below _ _
            have HX5 : Hid (w5.heap[wr.heap.size]? = some (.cells #[.slice va xD.length vc, .int .i64 xf, .int .i64 (xz : Int), .int .u64 xg.c, .bool xg.o, .int .i64 (hi xg.s), .int .u64 (lo xg.s), .int .i64 xg.mn, .int .i64 xg.mx] 38)) := by rw [HW5.out]; exact heap_alloc_new _ _
            have HSX5 : Hid (SReads w5 (.slice va xD.length vc) xD) := (hsr.below hb2r).below hb5
            have HG5 : Hid (RlI w2 w2.heap.size mn f t (xs.map itR) k P w5) := HG.out.below hb5
            have HB5 : Hid (Below wr.heap.size wr w5) := hb5
            have HWI : Hid (Calls Tryz.prog 33 #[.agg #[.slice va xD.length vc, .int .i64 xf, .int .i64 (xz : Int), .int .u64 xg.c, .bool xg.o, .int .i64 (hi xg.s), .int .u64 (lo xg.s), .int .i64 xg.mn, .int .i64 xg.mx], .int .i64 f, .int .i64 t] w5 fun e w' => e = .returned (.bool (decide (f ≤ xf ∧ xf < t))) ∧ Below w5.heap.size w5 w') := within_any ⟨.slice va xD.length vc, xD, xf, xz, xg⟩ f t w5
            have d0 := (cell_row HX5.out 0 (by simp)).1
            have d1 := (cell_row HX5.out 1 (by simp)).1
            have d2 := (cell_row HX5.out 2 (by simp)).1
            have d3 := (cell_row HX5.out 3 (by simp)).1
            have d4 := (cell_row HX5.out 4 (by simp)).1
            have d5 := (cell_row HX5.out 5 (by simp)).1
            have d6 := (cell_row HX5.out 6 (by simp)).1
            have d7 := (cell_row HX5.out 7 (by simp)).1
            have d8 := (cell_row HX5.out 8 (by simp)).1
            simp only [List.getElem_toArray, List.getElem_cons_zero, List.getElem_cons_succ] at d0 d1 d2 d3 d4 d5 d6 d7 d8
            rw [HW5.out] at d0 d1 d2 d3 d4 d5 d6 d7 d8
            clear hb5 hsr hokx hy hc9 hkx hkm HX HG hb2r
            go_wp2_with fail
            rw [← HW5.out]
            clear HW5 d0 d1 d2 d3 d4 d5 d6 d7 d8
            refine HWI.out.mono ?_
            clear HWI
            rintro e w6 ⟨rfl, hb6⟩
            have HX6 : Hid (w6.heap[wr.heap.size]? = some (.cells #[.slice va xD.length vc, .int .i64 xf, .int .i64 (xz : Int), .int .u64 xg.c, .bool xg.o, .int .i64 (hi xg.s), .int .u64 (lo xg.s), .int .i64 xg.mn, .int .i64 xg.mx] 38)) := (hb6.block _ (Array.getElem?_eq_some_iff.1 HX5.out).1).trans HX5.out
            have HB6 : Hid (Below wr.heap.size wr w6) := HB5.out.trans (hb6.mono HB5.out.size)
            have HG6 : Hid (RlI w2 w2.heap.size mn f t (xs.map itR) k P w6) := HG5.out.below hb6
            have HSX6 : Hid (SReads w6 (.slice va xD.length vc) xD) := HSX5.out.below hb6
            clear hb6 HX5 HG5 HB5 HSX5
            by_cases hin : f ≤ xf ∧ xf < t
            · rw [decide_eq_true hin]
              have HPU2 : Hid (∀ (w W : World) (x : It), RlI w2 w2.heap.size mn f t (xs.map itR) k P w → itR x = pR mn f t ⟨xD, xf, xz, xg⟩ → VMap W w2.heap.size (vPut (jn x.D, v9 { x with a := mrg (aggI x.D P) x.a }) (vlI P)) → w.mapTurned W w2.heap.size → SReads w x.v x.D → RwOk x → RlI w2 w2.heap.size mn f t (xs.map itR) (k + 1) (insI x P) W) := HPUT.out (by unfold inR itR; exact decide_eq_true hin)
              have HZt : Hid (1 ≤ t - f ∧ t - f ≤ 1099511627776) := ⟨by have := hrg'.out; omega, by have := hrg'.out; omega⟩
              obtain ⟨hf9, hft9, ht9⟩ : 0 ≤ f ∧ f ≤ t ∧ t ≤ 1099511627776 := hrg'.out
              obtain ⟨Z, HZ⟩ : ∃ Z : Nat, Hid (t - f = (Z : Int)) := ⟨(t - f).toNat, by have := HZt.out; show _ = _; omega⟩
              have HPC : Hid (Calls Tryz.prog 36 #[.slice va xD.length vc, .int .i64 (mn : Int)] w6 fun e w' => ∃ v', e = .returned (.tuple #[v', .int .i64 0]) ∧ SOwn w' w6.heap.size v' (pt xD mn) ∧ Below w6.heap.size w6 w') := part_any _ xD (by have := (mayB_iff.1 HOX.out.m).1; simp only at this; omega) mn hmn w6 HSX6.out
              have d0 := (cell_row HX6.out 0 (by simp)).1
              simp only [List.getElem_toArray, List.getElem_cons_zero] at d0
              clear hin HNO HPUT
              go_wp2_with fail
              refine HPC.out.mono ?_
              clear HPC d0
              rintro e w7 ⟨pv, rfl, hpo, hb7⟩
              have HP7 : Hid (SReads w7 pv (pt xD mn)) := hpo.reads
              have HX7 : Hid (w7.heap[wr.heap.size]? = some (.cells #[.slice va xD.length vc, .int .i64 xf, .int .i64 (xz : Int), .int .u64 xg.c, .bool xg.o, .int .i64 (hi xg.s), .int .u64 (lo xg.s), .int .i64 xg.mn, .int .i64 xg.mx] 38)) := (hb7.block _ (Array.getElem?_eq_some_iff.1 HX6.out).1).trans HX6.out
              have HG7 : Hid (RlI w2 w2.heap.size mn f t (xs.map itR) k P w7) := HG6.out.below hb7
              have HMP : Hid (mayB (pt xD mn) = true) := mayB_pt HOX.out.m mn
              have HGC : Hid (Calls Tryz.prog 37 #[pv] w7 fun e w' => ∃ v, e = .returned (.tuple #[v, .int .i64 0]) ∧ Own w' w7.heap.size v (jn (pt xD mn)) ∧ Below w7.heap.size w7 w') := group_yes pv (pt xD mn) HMP.out w7 HP7.out
              obtain ⟨p, Hp⟩ := hid_ex (pt xD mn)
              rw [← Hp.out] at HP7 HMP HGC
              obtain ⟨pa, pc, hpv, -⟩ := HP7.out.form
              obtain ⟨pn, Hpn⟩ := hid_ex p.length
              rw [← Hpn.out] at hpv
              subst hpv
              clear hpo hb7 HX6 HG6 HSX6 HB6
              go_wp2_with fail
              refine HGC.out.mono ?_
              clear HGC
              rintro e w8 ⟨gv, rfl, hgo, hb8⟩
              obtain ⟨s, Hs⟩ := hid_ex (jn p)
              rw [← Hs.out] at hgo
              have hgr := hgo.reads
              have HGR : Hid (Reads w8 gv s) := hgr
              have HP8 : Hid (SReads w8 (.slice pa pn pc) p) := HP7.out.below hb8
              have HX8 : Hid (w8.heap[wr.heap.size]? = some (.cells #[.slice va xD.length vc, .int .i64 xf, .int .i64 (xz : Int), .int .u64 xg.c, .bool xg.o, .int .i64 (hi xg.s), .int .u64 (lo xg.s), .int .i64 xg.mn, .int .i64 xg.mx] 38)) := (hb8.block _ (Array.getElem?_eq_some_iff.1 HX7.out).1).trans HX7.out
              have HG8 : Hid (RlI w2 w2.heap.size mn f t (xs.map itR) k P w8) := HG7.out.below hb8
              obtain ⟨y0, hlk, hya, hyg⟩ := HG8.out.look HMP.out
              rw [← Hs.out] at hlk
              have hcv := reads_text hgr
              obtain ⟨u0, uD, uf, uz, ua⟩ := y0
              simp only at hya hyg
              have HYA : Hid (ua = aggI p P) := hya
              have HYG : Hid (Gd ua) := hyg
              have HMC : Hid (Calls Tryz.prog 25 #[.agg #[.int .u64 ua.c, .bool ua.o, .int .i64 (hi ua.s), .int .u64 (lo ua.s), .int .i64 ua.mn, .int .i64 ua.mx], .agg #[.int .u64 xg.c, .bool xg.o, .int .i64 (hi xg.s), .int .u64 (lo xg.s), .int .i64 xg.mn, .int .i64 xg.mx]] w8 fun e w' => e = .returned (.agg #[.int .u64 (mrg ua xg).c, .bool (mrg ua xg).o, .int .i64 (hi (mrg ua xg).s), .int .u64 (lo (mrg ua xg).s), .int .i64 (mrg ua xg).mn, .int .i64 (mrg ua xg).mx]) ∧ Below w8.heap.size w8 w') := merge_any ua xg hyg.c.1 hyg.c.2 HOX.out.a.c.1 HOX.out.a.c.2 w8
              have d3 := (cell_row HX8.out 3 (by simp)).1
              have d4 := (cell_row HX8.out 4 (by simp)).1
              have d5 := (cell_row HX8.out 5 (by simp)).1
              have d6 := (cell_row HX8.out 6 (by simp)).1
              have d7 := (cell_row HX8.out 7 (by simp)).1
              have d8 := (cell_row HX8.out 8 (by simp)).1
              simp only [List.getElem_toArray, List.getElem_cons_zero, List.getElem_cons_succ] at d3 d4 d5 d6 d7 d8
              simp only [v9, c9] at hlk
              have hfd := field17
              obtain ⟨ga, gn, gc, hgv⟩ : ∃ ga gn gc, gv = .slice ga gn gc := by obtain ⟨a, c, h, _⟩ := hgr.form; exact ⟨a, _, c, h⟩
              subst hgv
              clear hgo hgr hb8 HX7 HG7 HP7 hya hyg
              go_wp2_with fail
              refine HMC.out.mono ?_
              clear HMC hlk hcv hfd d3 d4 d5 d6 d7 d8
              rintro e w9 ⟨rfl, hb9⟩
              obtain ⟨kn, Hkn⟩ := hid_ex (mrg ua xg)
              rw [← Hkn.out]
              obtain ⟨w10, HW10⟩ := hid_ex (w9.alloc (.cells #[.int .u64 kn.c, .bool kn.o, .int .i64 (hi kn.s), .int .u64 (lo kn.s), .int .i64 kn.mn, .int .i64 kn.mx] 36))
              have hb10 : Below w9.heap.size w9 w10 := by rw [HW10.out]; exact new_below _ _
              have hb810 : Below w8.heap.size w8 w10 := hb9.trans (hb10.mono hb9.size)
              have HK10 : Hid (w10.heap[w9.heap.size]? = some (.cells #[.int .u64 kn.c, .bool kn.o, .int .i64 (hi kn.s), .int .u64 (lo kn.s), .int .i64 kn.mn, .int .i64 kn.mx] 36)) := by rw [HW10.out]; exact heap_alloc_new _ _
              have HP10 : Hid (SReads w10 (.slice pa pn pc) p) := HP8.out.below hb810
              have HG10 : Hid (RlI w2 w2.heap.size mn f t (xs.map itR) k P w10) := HG8.out.below hb810
              have hcv := reads_text (HGR.out.below hb810)
              have e0 := (cell_row HK10.out 0 (by simp)).1
              have e1 := (cell_row HK10.out 1 (by simp)).1
              have e2 := (cell_row HK10.out 2 (by simp)).1
              have e3 := (cell_row HK10.out 3 (by simp)).1
              have e4 := (cell_row HK10.out 4 (by simp)).1
              have e5 := (cell_row HK10.out 5 (by simp)).1
              simp only [List.getElem_toArray, List.getElem_cons_zero, List.getElem_cons_succ] at e0 e1 e2 e3 e4 e5
              have hmap := HG10.out.M
              have hkey := keyS s (by rw [Hs.out]; have := jn_short HMP.out; unfold maxLen; omega)
              have hpl : (vlI P).length < maxLen := by
                rw [vlI_len]
                have h1 := congrArg List.length HG10.out.e
                have h2 := rollF_len mn f t ((xs.map itR).take k)
                rw [List.length_map] at h1
                rw [List.length_take, List.length_map, ← Hn.out] at h2
                unfold maxLen
                omega
              rw [HW10.out] at e0 e1 e2 e3 e4 e5 hcv hmap
              clear hb9 hb10 hb810 HX8 HG8 HP8 HGR
              go_wp2_with (go_loud (at_mapUpdate; refine wpList_mapUpdate_in _ rfl _ _ _ 79 rfl 9 38 keyedS Tryz.underlying79 anyE w2.heap.size (vlI P).length _ rfl hmap hpl _ _ _ rfl rfl hkey (.held (.agg #[.slice pa pn pc, .int .i64 f, .int .i64 (t - f), .int .u64 kn.c, .bool kn.o, .int .i64 (hi kn.s), .int .u64 (lo kn.s), .int .i64 kn.mn, .int .i64 kn.mx])) [] rfl ?_; intro w11 hown11 hturn11))
              rw [← HW10.out] at hturn11
              have HN : Hid (RlI w2 w2.heap.size mn f t (xs.map itR) (k + 1) (insI ⟨.slice pa pn pc, p, f, Z, xg⟩ P) w11) := by
                refine HPU2.out w10 w11 ⟨.slice pa pn pc, p, f, Z, xg⟩ HG10.out ?_ ?_ hturn11 HP10.out ⟨HMP.out, ⟨hf9, Int.le_trans hft9 ht9⟩, ⟨by have := HZ.out; have := HZt.out; show 1 ≤ Z; omega, by have := HZ.out; have := HZt.out; show Z ≤ 1099511627776; omega⟩, HOX.out.a, HOX.out.c⟩
                · unfold itR pR
                  rw [← Hp.out, HZ.out, Int.toNat_natCast]
                · have e : v9 ⟨.slice pa pn pc, p, f, Z, mrg (aggI p P) xg⟩ = .agg #[.slice pa pn pc, .int .i64 f, .int .i64 (t - f), .int .u64 kn.c, .bool kn.o, .int .i64 (hi kn.s), .int .u64 (lo kn.s), .int .i64 kn.mn, .int .i64 kn.mx] := by
                    rw [← HYA.out, ← Hkn.out, HZ.out]; rfl
                  show VMap w11 w2.heap.size (vPut (jn p, v9 ⟨.slice pa pn pc, p, f, Z, mrg (aggI p P) xg⟩) (vlI P))
                  rw [e, ← Hs.out]
                  exact .of hown11 (vD_put (s, _) _)
              clear hown11 hturn11
              go_wp2_with fail
              go_roundw
              case rel => exact ⟨k + 1, _, by omega, by go_num, HN⟩
              case measure => simp [intOf]; omega
            · rw [decide_eq_false hin]
              have HN : Hid (RlI w2 w2.heap.size mn f t (xs.map itR) (k + 1) P w6) := HNO.out (by unfold inR itR; exact decide_eq_false hin) w6 HB6.out
              clear hin HPUT HNO
              go_wp2_with fail
              go_roundw
              case rel => exact ⟨k + 1, P, by omega, by go_num, HN⟩
              case measure => simp [intOf]; omega
          · obtain rfl : k = n := by omega
            have HSC : Hid (Calls Tryz.prog 38 #[.map (some w2.heap.size)] wr fun e w' => ∃ v', e = .returned v' ∧ TReads w' v' P ∧ Below wr.heap.size wr w') := sorted17_any w2.heap.size P wr HG.out.M HG.out.srt HG.out.s (fun y hy => jn_short (HG.out.ok y hy).m) (by
              have h1 := congrArg List.length HG.out.e
              have h2 := rollF_len mn f t ((xs.map itR).take k)
              rw [List.length_map] at h1
              rw [List.length_take, List.length_map, ← Hn.out] at h2
              omega)
            have HBr : Hid (Below w.heap.size w wr) := HB2.out.trans (HG.out.b.mono HB2.out.size)
            have HOKP : Hid (∀ y ∈ P, RwOk y) := HG.out.ok
            have HPE : Hid (P.map itR = q) := by
              show _ = _
              rw [HG.out.e, HQ2.out, List.take_of_length_le (by rw [List.length_map, Hn.out]; exact Nat.le_refl _)]
            clear HG
            go_wp2_with fail
            refine HSC.out.mono ?_
            clear HSC
            rintro e w6 ⟨v6, rfl, hr6, hb6⟩
            have HEnd : Hid (∃ a cap, v6 = .slice a P.length cap ∧ RwPost q 0 w (.returned (.tuple #[.slice a P.length cap, .int .i64 0])) w6) := by
              obtain ⟨a, cap, hv, _⟩ := hr6.form
              subst hv
              exact ⟨a, cap, rfl, HBr.out.trans (hb6.mono HBr.out.size), a, cap, P, rfl, hr6, HPE.out, HOKP.out⟩
            obtain ⟨oa, oc, hov, HP⟩ := HEnd.out
            obtain ⟨M, HM9⟩ : ∃ m, Hid (P.length = m) := ⟨_, rfl⟩
            rw [HM9.out] at hov HP
            subst hov
            have HP2 : Hid _ := HP
            clear HP HEnd hr6 hb6
            go_wp2_with fail
            go_ret2
            exact HP2.out
      · obtain ⟨h1, h2⟩ := rlE_rng (f := f) (t := t) HZ.out hmk hrg
        rw [← HC.out] at h1
        rw [← HQ.out] at h2
        subst h2
        have HEnd : Hid (RwPost [] c w (.returned (.tuple #[.slice none 0 0, .int .i64 1])) w2) := by rw [← h1]; exact RwPost.none HB2.out
        have HIR := isRange_any f t w2
        rw [decide_eq_false hrg] at HIR
        have HIR2 : Hid (Calls Tryz.prog 31 #[.int .i64 f, .int .i64 t] w2 fun e w' => e = .returned (.bool false) ∧ w' = w2) := HIR
        clear h1 HC HIR hrg
        go_wp2_with fail
        refine HIR2.out.mono ?_
        rintro e w' ⟨rfl, hw'⟩
        subst w'
        clear HIR2
        go_wp2_with fail
        go_ret2
        exact HEnd.out
end Go.Proofs.YtoenijflijfogaaGreat
