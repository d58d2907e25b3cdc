/- FL15, joined. -/
import Derived.Test.YtgjcopabmdbenaaGreatQZ27
import Derived.BigQuiet
import Derived.Deep.QuietTactic
/- The contract of fold.Facts. -/
namespace Go.Proofs.YtgjcopabmdbenaaGreat
open Go.RowKit Go.Shelf

theorem take_fa {fs : List Fa} {R : Rl} {k : Nat} (hk : k < fs.length) : ((fs.take (k + 1)).map (fcI R)).flatMap c9 = ((fs.take k).map (fcI R)).flatMap c9 ++ c9 (fcI R fs[k]) := by
  rw [List.take_add_one, List.getElem?_eq_getElem hk, List.map_append, List.flatMap_append]
  simp
theorem FcI.snoc {R : Rl} {w w1 : World} {fs : List Fa} {k : Nat} {v v' : Value} {wr W : World} {o : Obj} (h : FcI R w w1 fs k v wr) (hk : k < fs.length) (hm : mayF fs[k] = true) (hown : W.ownsRow w1.heap.size 59 9 v' (k + 1) (((fs.take k).map (fcI R)).flatMap c9 ++ c9 (fcI R fs[k]))) (hg : (wr.alloc o).grownBy W v.ownBlock) : FcI R w w1 fs (k + 1) v' W := by
  refine ⟨by rw [take_fa hk]; exact hown, fun j hj hjk => ?_, ?_⟩
  · rcases Nat.lt_or_ge j k with h1 | h1
    · exact h.m j hj h1
    · have : j = k := by omega
      subst this; exact hm
  · exact (h.b.alloc h.b.size o).grown hg (by have := h.b.size; simp; omega) (fun t ht => (World.ownsRow.lt h.r t ht).1)
set_option maxRecDepth 100000 in
set_option maxHeartbeats 8000000 in
theorem facts_any (R : Rl) (wm : Int) (v : Value) (fs : List Fa) (w : World) (hL : Lies R w.heap.size w) (hF : FReads w v fs) (hl : fs.length ≤ 100000) (hS : Sorts fs.length) :
    Calls Tryz.prog 6 #[.agg #[.slice R.a R.len R.cap, .int .i64 R.kp], .int .i64 wm, v] w (FcPost R wm fs w) := by
  have HF : Hid (FReads w v fs) := hF
  have HL : Hid (Lies R w.heap.size w) := hL
  have HS : Hid (Sorts fs.length) := hS
  obtain ⟨a, cap, rfl, hm1, hm2⟩ := hF.form
  unfold maxLen at hm2
  clear hF hL hS
  obtain ⟨w1, HW1⟩ := hid_ex (w.alloc (.cells #[.slice R.a R.len R.cap, .int .i64 R.kp] 24))
  have hb1 : Below w.heap.size w w1 := by rw [HW1.out]; exact new_below _ _
  have HX1 : Hid (RBox R w.heap.size w1) := by rw [HW1.out]; exact RBox.new R w _
  have HL1 : Hid (Lies R w1.heap.size w1) := HL.out.at hb1
  have HB1 : Hid _ := hb1
  clear hb1
  go_enter Tryz.func6, Tryz.ntmps6
  go_wp2_with fail
  rw [← HW1.out]
  clear HW1
  refine (fault15_any R wm _ HL1.out).mono ?_
  rintro e w2 ⟨rfl, hb2⟩
  have HB2 : Hid (Below w.heap.size w w2) := HB1.out.trans (hb2.mono HB1.out.size)
  have HX2 : Hid (RBox R w.heap.size w2) := HX1.out.below hb2
  clear hb2 HB1 HX1 HL1
  by_cases hf : fE R 0 wm = 0
  · have HFE : Hid (fE R 0 wm = 0) := hf
    have HR : Hid (RightP R) := (fE_ok hf).1
    have hwt : isT wm = true := (fE_ok hf).2.2
    rw [hf]
    clear hf
    have HI0 : Hid (FcI R w w2 fs 0 (.slice none 0 0) w2) := ⟨World.ownsRow_nil _ _ _ _, fun j hj h => by omega, Below.refl _ _⟩
    have HLI : Hid (∀ W, Below w2.heap.size w2 W → Lies R W.heap.size W ∧ RBox R w.heap.size W ∧ Below w.heap.size w W) := fun W hW => ⟨HL.out.at (HB2.out.trans (hW.mono HB2.out.size)), HX2.out.below hW, HB2.out.trans (hW.mono HB2.out.size)⟩
    obtain ⟨i0, hinf, hz0, hz1, hz2⟩ := info_parts infoIt
    go_wp2_with fail
    go_loopw [9, 23] (fun iv i wr => ∃ k : Nat, i = .int .i64 (k : Int) ∧ k ≤ fs.length ∧ Hid (FcI R w w2 fs k iv wr)) (fun _ i _ => fs.length - (intOf i).toNat)
    case atStart => exact ⟨0, rfl, by omega, HI0⟩
    case round =>
      clear HI0
      obtain ⟨k, rfl, hk, HC⟩ := hrel
      by_cases hlt : k < fs.length
      · obtain ⟨b, off, rfl, hbw, hcw, hsr, hfb⟩ := HF.out.at hlt
        obtain ⟨hLr, hXr, hbr⟩ := HLI.out _ HC.out.b
        have hc : ∀ i (hi : i < 3), wr.cell? ⟨b, off + k * 3 + i, none⟩ = some ((c3 fs[k])[i]'hi) := fun i hi => (hbr.cell (p := ⟨b, off + k * 3 + i, none⟩) hbw).trans (hcw i hi)
        have hsr2 := hsr.below hbr
        have HBAD : Hid (mayF fs[k] = false → fs.all mayF = false) := fun h => all_not hlt h
        have HSN : Hid (∀ (v v' : Value) (wr' W : World) (o : Obj), FcI R w w2 fs k v wr' → mayF fs[k] = true → W.ownsRow w2.heap.size 59 9 v' (k + 1) (((fs.take k).map (fcI R)).flatMap c9 ++ c9 (fcI R fs[k])) → (wr'.alloc o).grownBy W v.ownBlock → FcI R w w2 fs (k + 1) v' W) := fun v v' wr' W o h1 h2 h3 h4 => h1.snoc hlt h2 h3 h4
        obtain ⟨X, HX⟩ := hid_ex fs[k]
        rw [← HX.out] at hc hfb hsr2 HBAD HSN
        obtain ⟨va, vc, hvd, _⟩ := hsr2.form
        obtain ⟨dn, Hdn⟩ := hid_ex X.D.length
        rw [← Hdn.out] at hvd
        rw [hvd] at hsr2
        have c0 := hc 0 (by decide)
        have c1 := hc 1 (by decide)
        have c2 := hc 2 (by decide)
        simp only [c3, List.getElem_cons_zero, List.getElem_cons_succ, Nat.add_zero] at c0 c1 c2
        rw [hvd] at c0
        obtain ⟨w3, HW3⟩ := hid_ex (wr.alloc (.cells #[.slice va dn vc, .int .i64 X.t, .int .i64 X.x] 36))
        have hb3 : Below wr.heap.size wr w3 := by rw [HW3.out]; exact new_below _ _
        have HC3 : Hid (FcI R w w2 fs k u9 w3) := HC.out.below hb3
        have HBX : Hid (w3.heap[wr.heap.size]? = some (.cells #[.slice va dn vc, .int .i64 X.t, .int .i64 X.x] 36)) := by rw [HW3.out]; exact heap_alloc_new _ _
        have HSR3 : Hid (SReads w3 (.slice va dn vc) X.D) := hsr2.below hb3
        have f1 : w3.cell? ⟨wr.heap.size, 1, none⟩ = some (.int .i64 X.t) := by rw [Go.Joins.cell_of_block HBX.out]; rfl
        obtain ⟨hL3, hX3, _⟩ := HLI.out _ HC3.out.b
        obtain ⟨rb, ro, hra, hrc, _⟩ := row_cells HR.out hL3 (k := 0) (by have := HR.out.1; omega)
        obtain ⟨r0, _⟩ := hX3.at
        rw [hra] at r0
        rw [show ro + 0 * 2 = ro by omega] at hrc
        have hrl : 0 < R.len := by have := HR.out.1; omega
        have hr4 : R.len ≤ 4 := HR.out.2.1
        obtain ⟨s, Hs⟩ := hid_ex (R.sz 0)
        rw [← Hs.out] at hrc
        have HDV : Hid (X.v = .slice va dn vc) := hvd
        have HSZ : Hid (isS s = true) := by rw [Hs.out]; exact sz_ok HR.out hrl
        have HXB : Hid (FaB X) := hfb
        clear hc hcw hsr hsr2 hb3 hfb hvd hbr hLr hXr hL3 hX3 HX hra
        by_cases ht : isT X.t = true
        · have HV : Hid (floorV X.t s = .tuple #[.int .i64 (X.t - X.t % s), .int .i64 0]) := by
            have h2 : isT X.t && isS s := by rw [ht, HSZ.out]; rfl
            unfold Hid floorV; rw [if_pos h2, if_pos h2]
          have HT : Hid (isT X.t = true) := ht
          have hf0 := floor0 HR.out ht
          rw [← Hs.out] at hf0
          have HFI : Hid (fcI R X = ⟨X.v, X.D, X.t - X.t % s, 0, oneF X.x⟩) := by unfold Hid fcI; rw [Hs.out]
          have HMB : Hid (mayF X = mayB X.D) := by unfold Hid mayF; rw [ht]; rfl
          obtain ⟨fr, Hfr⟩ := hid_ex (X.t - X.t % s)
          rw [← Hfr.out] at HV hf0 HFI
          clear ht
          go_wp2_with fail
          rw [← HW3.out]
          clear HW3 c0 c1 c2
          go_quiet (exact (floor_any X.t s _).mono (fun e w h => ⟨by rw [h.1, HV.out], _, h.2⟩))
          obtain ⟨w4, HW4⟩ := hid_ex (w3.drewN nq)
          have hb4 : Below w3.heap.size w3 w4 := by rw [HW4.out]; exact below_drewN (Below.refl _ _) nq
          rw [← HW4.out]
          have f0 : w4.cell? ⟨wr.heap.size, 0, none⟩ = some (.slice va dn vc) := by rw [Go.Joins.cell_of_block ((hb4.block _ (Array.getElem?_eq_some_iff.1 HBX.out).1).trans HBX.out)]; rfl
          obtain ⟨w5, HW5⟩ := hid_ex (w4.alloc (.cells #[.slice va dn vc, .int .i64 fr, .int .i64 0] 55))
          have hb5 : Below w3.heap.size w3 w5 := by rw [HW5.out]; exact hb4.alloc hb4.size _
          have HC5 : Hid (FcI R w w2 fs k u9 w5) := HC3.out.below hb5
          have HX5 : Hid (w5.heap[wr.heap.size]? = some (.cells #[.slice va dn vc, .int .i64 X.t, .int .i64 X.x] 36)) := (hb5.block _ (Array.getElem?_eq_some_iff.1 HBX.out).1).trans HBX.out
          have HY5 : Hid (w5.heap[w4.heap.size]? = some (.cells #[.slice va dn vc, .int .i64 fr, .int .i64 0] 55)) := by rw [HW5.out]; exact heap_alloc_new _ _
          have HSR5 : Hid (SReads w5 (.slice va dn vc) X.D) := HSR3.out.below hb5
          have HKL : Hid (KLies ⟨.slice va dn vc, X.D, fr, 0⟩ w5) := ⟨HSR5.out, by show (-9223372036854775808 : Int) ≤ fr; omega, by show fr ≤ (9223372036854775807 : Int); omega, by show (-9223372036854775808 : Int) ≤ 0; omega, by show (0 : Int) ≤ 9223372036854775807; omega⟩
          have HRB : Hid (rightBK X.D fr 0 = mayB X.D) := by
            unfold Hid rightBK
            rw [decide_eq_true (by omega), Bool.and_true]
          have HRC : Hid (Calls Tryz.prog 14 #[.agg #[.slice va dn vc, .int .i64 fr, .int .i64 0]] w5 fun e w' => e = .returned (.bool (mayB X.D)) ∧ Below w5.heap.size w5 w') := by
            have := right_anyK ⟨.slice va dn vc, X.D, fr, 0⟩ w5 HKL.out
            rw [HRB.out] at this
            exact this
          clear hb4 hb5 HW4 HRB HKL HSR3 HBX HC3 f1 r0 hrc
          go_wp2_with fail
          rw [← HW5.out]
          clear HW5 f0
          refine HRC.out.mono ?_
          rintro e w6 ⟨rfl, hb6⟩
          have HC6 : Hid (FcI R w w2 fs k u9 w6) := HC5.out.below hb6
          have HX6 : Hid (w6.heap[wr.heap.size]? = some (.cells #[.slice va dn vc, .int .i64 X.t, .int .i64 X.x] 36)) := (hb6.block _ (Array.getElem?_eq_some_iff.1 HX5.out).1).trans HX5.out
          have HY6 : Hid (w6.heap[w4.heap.size]? = some (.cells #[.slice va dn vc, .int .i64 fr, .int .i64 0] 55)) := (hb6.block _ (Array.getElem?_eq_some_iff.1 HY5.out).1).trans HY5.out
          clear hb6 HC5 HX5 HY5 HSR5 HRC
          cases hmb : mayB X.D with
          | false =>
            have HEnd : Hid (FcPost R wm fs w (.returned (.tuple #[.slice none 0 0, .int .i64 110])) w6) := ⟨(HLI.out _ HC6.out.b).2.2, .inr (.inl ⟨HFE.out, HBAD.out (by rw [HMB.out, hmb]), rfl⟩)⟩
            clear hmb
            go_wp2_with fail
            go_ret2
            exact HEnd.out
          | true =>
            have HMF : Hid (mayF X = true) := by unfold Hid; rw [HMB.out, hmb]
            have HYV : Hid (fcI R X = ⟨.slice va dn vc, X.D, fr, 0, oneF X.x⟩) := by unfold Hid; rw [HFI.out, HDV.out]
            rw [HYV.out] at HSN
            clear hmb HMB
            go_wp2_with fail
            refine wp_region_noPanic ?_
            refine wp_region_held_drew (S := (fun w' => w'.heap[wr.heap.size]? = some (.cells #[.slice va dn vc, .int .i64 X.t, .int .i64 X.x] 36) ∧ w'.heap[w4.heap.size]? = some (.cells #[.slice va dn vc, .int .i64 fr, .int .i64 0] 55))) (by kernel_rfl) ?_ (fun hHeld => ?_)
            · exact ⟨HX6.out, HY6.out⟩
            refine wpAnyH_take (i := 0) (v := u9) rfl (by kernel_rfl) (by kernel_rfl) (by kernel_rfl) (fun _ _ _ h => h) (Or.inl ⟨by rfl, ?_⟩) (by assumption) ?_
            · (intro w1 hSw; (try dsimp only at hSw); go_simp)
            simp only [List.getElem_toArray, List.getElem_cons_zero, Act.put, List.setIfInBounds_toArray, List.set_cons_zero, List.set_cons_succ]
            refine wpAnyH_take (i := 1) (v := .agg #[.slice va dn vc, .int .i64 fr, .int .i64 0]) rfl (by kernel_rfl) (by kernel_rfl) (by kernel_rfl) (fun _ _ _ h => h) (Or.inl ⟨by rfl, ?_⟩) (by assumption) ?_
            · (intro w1 hSw; (try dsimp only at hSw); have h0 := (cell_row hSw.2 0 (by simp)).1; have h1 := (cell_row hSw.2 1 (by simp)).1; have h2 := (cell_row hSw.2 2 (by simp)).1; simp only [List.getElem_toArray, List.getElem_cons_succ, List.getElem_cons_zero] at h0 h1 h2; go_simp)
            simp only [List.getElem_toArray, List.getElem_cons_succ, List.getElem_cons_zero, Act.put, List.setIfInBounds_toArray, List.set_cons_zero, List.set_cons_succ]
            refine wpAnyH_take (i := 2) (v := .pointer (some ⟨wr.heap.size, 2, none⟩)) rfl (by kernel_rfl) (by kernel_rfl) (by kernel_rfl) (fun _ _ _ h => h) (Or.inl ⟨by rfl, ?_⟩) (by assumption) ?_
            · (intro w1 hSw; (try dsimp only at hSw); go_simp)
            simp only [List.getElem_toArray, List.getElem_cons_succ, List.getElem_cons_zero, Act.put, List.setIfInBounds_toArray, List.set_cons_zero, List.set_cons_succ]
            refine wpAnyH_take (i := 3) (v := .int .i64 X.x) rfl (by kernel_rfl) (by kernel_rfl) (by kernel_rfl) (fun _ _ _ h => h) (Or.inl ⟨by rfl, ?_⟩) (by assumption) ?_
            · (intro w1 hSw; (try dsimp only at hSw); have h2 := (cell_row hSw.1 2 (by simp)).1; simp only [List.getElem_toArray, List.getElem_cons_succ, List.getElem_cons_zero] at h2; go_simp)
            simp only [List.getElem_toArray, List.getElem_cons_succ, List.getElem_cons_zero, Act.put, List.setIfInBounds_toArray, List.set_cons_zero, List.set_cons_succ]
            refine wpAnyH_ready (rs := [4]) (by kernel_rfl) (by simp) ?_
            refine AllReadyH.cons (o := _) rfl (fun K hK => ?_) AllReadyH.nil
            go_simp
            refine (one_any X.x HXB.out.x1 HXB.out.x2 _).mono ?_
            rintro e w7 ⟨rfl, hb7⟩
            have HW7 : Hid (Below w6.heap.size w6 w7) := (Below.refl w6.heap.size w6).drew.trans hb7
            clear hb7
            have HC7 : Hid (FcI R w w2 fs k u9 w7) := HC6.out.below HW7.out
            have HX7 : Hid (w7.heap[wr.heap.size]? = some (.cells #[.slice va dn vc, .int .i64 X.t, .int .i64 X.x] 36)) := (HW7.out.block _ (Array.getElem?_eq_some_iff.1 HX6.out).1).trans HX6.out
            have HY7 : Hid (w7.heap[w4.heap.size]? = some (.cells #[.slice va dn vc, .int .i64 fr, .int .i64 0] 55)) := (HW7.out.block _ (Array.getElem?_eq_some_iff.1 HY6.out).1).trans HY6.out
            refine hK.out _ _ ?_ (fun hHeld => ?_)
            · exact ⟨HX7.out, HY7.out⟩
            clear hK K
            refine wpAnyH_take (i := 5) (v := .agg #[.slice va dn vc, .int .i64 fr, .int .i64 0, .int .u64 (oneF X.x).c, .bool (oneF X.x).o, .int .i64 (hi (oneF X.x).s), .int .u64 (lo (oneF X.x).s), .int .i64 (oneF X.x).mn, .int .i64 (oneF X.x).mx]) rfl (by kernel_rfl) (by kernel_rfl) (by kernel_rfl) (fun _ _ _ h => h) (Or.inl ⟨by rfl, ?_⟩) (by assumption) ?_
            · (intro w1 hSw; (try dsimp only at hSw); go_simp)
            simp only [List.getElem_toArray, List.getElem_cons_succ, List.getElem_cons_zero, Act.put, List.setIfInBounds_toArray, List.set_cons_zero, List.set_cons_succ]
            refine wpAnyH_ready (rs := [6]) (by kernel_rfl) (by simp) ?_
            refine AllReadyH.cons (o := _) rfl (fun K hK => ?_) AllReadyH.nil
            go_simp
            refine hK.out _ _ ?_ (fun hHeld => ?_)
            · exact ⟨(Below.heap_alloc _ _ _ (Array.getElem?_eq_some_iff.1 HX7.out).1).trans HX7.out, (Below.heap_alloc _ _ _ (Array.getElem?_eq_some_iff.1 HY7.out).1).trans HY7.out⟩
            clear hK K
            obtain ⟨v8, w8, hrun, hown8, hg8, _⟩ := run_append_own (P := Tryz.prog) (w7.alloc (.cells (c9 ⟨.slice va dn vc, X.D, fr, 0, oneF X.x⟩).toArray 59)) w2.heap.size 49 49 59 i0 _ 9 88 Tryz.underlying49 hinf hz0 hz1 hz2 rfl (by decide) u9 k _ (HC7.out.r.alloc _) ⟨w7.heap.size, 0, none⟩ 1 1 (c9 ⟨.slice va dn vc, X.D, fr, 0, oneF X.x⟩) rfl (news7 w7 _) (one9 rfl) (by unfold maxLen; omega) (by omega) (by have := HC7.out.b.size; simp; omega)
            have HN8 : Hid (FcI R w w2 fs (k + 1) v8 w8) := HSN.out u9 v8 w7 w8 _ HC7.out HMF.out hown8 hg8
            have HX8 : Hid (w8.heap[wr.heap.size]? = some (.cells #[.slice va dn vc, .int .i64 X.t, .int .i64 X.x] 36) ∧ w8.heap[w4.heap.size]? = some (.cells #[.slice va dn vc, .int .i64 fr, .int .i64 0] 55)) := by
              have hrw : ∀ t, u9.ownBlock = some t → ∃ cur, w7.heap[t]? = some (.cells cur 59) := fun t ht => by
                rcases HC7.out.r.2 with ⟨q, _⟩ | ⟨g0, c0, cur, q, _, hw, _⟩
                · rw [q] at ht; simp [Value.ownBlock] at ht
                · rw [q] at ht; simp [Value.ownBlock] at ht; subst ht; exact ⟨cur, hw⟩
              have hkp : ∀ (t : Nat) (cs : Array Value) (T : TypeId), w7.heap[t]? = some (Obj.cells cs T) → T ≠ 59 → w8.heap[t]? = some (Obj.cells cs T) := fun t cs T q hT => by
                have hl := (Array.getElem?_eq_some_iff.1 q).1
                refine (hg8.block t (by simp; omega) (fun e => ?_)).trans ((Below.heap_alloc _ _ _ hl).trans q)
                obtain ⟨cur, hc⟩ := hrw t e.symm
                exact absurd rfl (typ_ne q hc hT)
              exact ⟨hkp _ _ _ HX7.out (by decide), hkp _ _ _ HY7.out (by decide)⟩
            clear hown8 hg8
            refine wpAnyH_ready (rs := [7]) (by kernel_rfl) (by simp) ?_
            refine AllReadyH.cons (o := _) rfl (fun K hK => ?_) AllReadyH.nil
            refine wp_app_run _ _ _ _ rfl rfl _ _ _ rfl rfl hrun ?_
            refine hK.out _ _ ?_ (fun hHeld => ?_)
            · exact HX8.out
            clear hK K
            refine wpAnyH_take (i := 8) (v := v8) rfl (by kernel_rfl) (by kernel_rfl) (by kernel_rfl) (fun _ _ _ h => h) (Or.inl ⟨by rfl, ?_⟩) (by assumption) ?_
            · (intro w1 hSw; (try dsimp only at hSw); go_simp)
            simp only [List.getElem_toArray, List.getElem_cons_succ, List.getElem_cons_zero, Act.put, List.setIfInBounds_toArray, List.set_cons_zero, List.set_cons_succ]
            clear hHeld
            refine wpAnyH_done (by kernel_rfl) ?_ _
            refine NoPanic.normal ?_
            clear hrun HC6 HC7 HX6 HY6 HX7 HY7
            go_wp2_with fail
            go_roundw
            case rel => exact ⟨k + 1, by go_num, by omega, HN8⟩
            case measure => simp [intOf]; omega
        · have htf : isT X.t = false := by simpa using ht
          have HV : Hid (floorV X.t s = .tuple #[.int .i64 0, .int .i64 1]) := by
            have h2 : ¬ ((isT X.t && isS s) = true) := by rw [htf]; simp
            unfold Hid floorV; rw [if_neg h2, if_neg h2]
          have HEnd : Hid (∀ W, Below w2.heap.size w2 W → FcPost R wm fs w (.returned (.tuple #[.slice none 0 0, .int .i64 110])) W) := fun W hW => ⟨(HLI.out _ hW).2.2, .inr (.inl ⟨HFE.out, HBAD.out (by unfold mayF; rw [htf]; rfl), rfl⟩)⟩
          clear ht htf
          go_wp2_with fail
          rw [← HW3.out]
          clear HW3 c0 c1 c2
          go_quiet (exact (floor_any X.t s _).mono (fun e w h => ⟨by rw [h.1, HV.out], _, h.2⟩))
          obtain ⟨w4, HW4⟩ := hid_ex (w3.drewN nq)
          have hb4 : Below w3.heap.size w3 w4 := by rw [HW4.out]; exact below_drewN (Below.refl _ _) nq
          rw [← HW4.out]
          have f0 : w4.cell? ⟨wr.heap.size, 0, none⟩ = some (.slice va dn vc) := by rw [Go.Joins.cell_of_block ((hb4.block _ (Array.getElem?_eq_some_iff.1 HBX.out).1).trans HBX.out)]; rfl
          have HE5 : Hid (FcPost R wm fs w (.returned (.tuple #[.slice none 0 0, .int .i64 110])) (w4.alloc (.cells #[.slice va dn vc, .int .i64 0, .int .i64 0] 55))) := HEnd.out _ (HC3.out.below (hb4.alloc hb4.size _)).b
          clear hb4 HW4
          go_wp2_with fail
          go_ret2
          exact HE5.out
      · obtain rfl : k = fs.length := by omega
        obtain ⟨hLr, hXr, hbr⟩ := HLI.out _ HC.out.b
        have HMA : Hid (∀ f ∈ fs, mayF f = true) := fun f hf => by
          obtain ⟨j, hj, rfl⟩ := List.getElem_of_mem hf
          exact HC.out.m j hj hj
        have HEnd : Hid (∀ (its : List It) (W V : World) (e : Ending), its.Perm (fs.map (fcI R)) → Below w.heap.size w W → FdPost R wm its W e V → ∃ v', e = .returned v' ∧ FcPost R wm fs w (.returned (.tuple #[v', .int .i64 0])) V ∧ ∃ a n c, v' = .slice a n c) := fun its W V e hp hW hd => by
          obtain ⟨v', xs, rfl, ho, hm3, hc3, hb3⟩ := hd
          have hrd := ho.reads hc3
          have e2 : foldF R wm (its.map itE) = foldF R wm (fs.map (fcE R)) := by
            have hq : (its.map itE).Perm ((fs.map (fcI R)).map itE) := hp.map _
            rw [List.map_map] at hq
            refine perm_fold hq (fun y hy => ?_)
            obtain ⟨x, hx, rfl⟩ := List.mem_map.1 hy
            obtain ⟨f, hf, rfl⟩ := List.mem_map.1 (hp.mem_iff.1 hx)
            exact oneF_gd f.x
          rw [hm3, e2] at hrd
          obtain ⟨a, c, hv, _⟩ := hrd.form
          exact ⟨v', rfl, ⟨hW.trans (hb3.mono hW.size), .inr (.inr ⟨HFE.out, all_may (fun j hj => HMA.out _ (List.getElem_mem hj)), v', rfl, hrd⟩)⟩, a, _, c, hv⟩
        have HIO : Hid (∀ (its : List It), its.Perm (fs.map (fcI R)) → ∀ x ∈ its, ItOk R x) := fun its hp x hx => by
          obtain ⟨f, hf, rfl⟩ := List.mem_map.1 (hp.mem_iff.1 hx)
          exact fcI_ok HR.out (HMA.out f hf)
        have HTK : Hid (((fs.take fs.length).map (fcI R)) = fs.map (fcI R)) := by unfold Hid; rw [List.take_length]
        rcases HC.out.r.2 with ⟨hnil, h0⟩ | ⟨g, cp, cur, hu9, hgb, hgw, hcp, hcm, _, _⟩
        · have HTN : Hid (TReads wr (.slice none 0 0) []) := ⟨none, 0, rfl, by simp, by simp, .inl rfl⟩
          have HFN : Hid (([] : List It).Perm (fs.map (fcI R))) := by
            have : fs = [] := List.length_eq_zero_iff.1 h0
            rw [this]
            exact List.Perm.refl _
          obtain ⟨r0, r1⟩ := hXr.at
          have HLr : Hid (Lies R wr.heap.size wr) := hLr
          have HBr : Hid (Below w.heap.size w wr) := hbr
          rw [hnil]
          clear hnil h0 hLr hXr hbr hinf hz0 hz1 hz2 HTK
          go_wp2_with fail
          refine (sort_nil _).mono ?_
          rintro e w5 ⟨⟨sv, rfl⟩, hw5⟩
          rw [hw5]
          clear hw5 w5
          go_wp2_with fail
          refine (folded_any R HR.out wm hwt _ [] _ HLr.out HTN.out (fun x hx => by cases hx) (by simp)).mono ?_
          rintro e w6 hd
          obtain ⟨v', rfl, hfc, va, vn, vc, rfl⟩ := HEnd.out [] _ _ _ HFN.out HBr.out hd
          have HE6 : Hid (FcPost R wm fs w (.returned (.tuple #[.slice va vn vc, .int .i64 0])) w6) := hfc
          clear hd hfc r0 r1
          go_wp2_with fail
          go_ret2
          exact HE6.out
        · have HPM : Hid (PmI w2 w2.heap.size g fs.length cp (fs.map (fcI R)) (fs.map (fcI R)) wr) := by
            have hr := HC.out.r
            rw [HTK.out, hu9] at hr
            refine ⟨List.Perm.refl _, hr, fun x hx => ?_, HC.out.b⟩
            obtain ⟨f, hf, rfl⟩ := List.mem_map.1 hx
            obtain ⟨j, hj, rfl⟩ := List.getElem_of_mem hf
            obtain ⟨b, off, _, _, _, hsr, hfb⟩ := HF.out.at hj
            refine ⟨hsr.below hbr, fun h0 b' hb' => ?_, fcI_b HR.out ?_⟩
            · have h1 := sreads_lt hsr h0 b' hb'
              have h2 := HB2.out.size
              omega
            · have := HMA.out _ (List.getElem_mem hj)
              unfold mayF at this
              simp only [Bool.and_eq_true] at this
              exact this.1
          have hXb := HX2.out
          rw [hu9]
          clear hu9 hLr hXr hbr hinf hz0 hz1 hz2 HTK hgb hgw
          go_wp2_with fail
          refine (HS.out w2 w2.heap.size g cp _ _ _ HPM.out).mono ?_
          rintro e w5 ⟨⟨sv, rfl⟩, its, hpm⟩
          obtain ⟨hL5, hX5, hb5⟩ := HLI.out _ hpm.b
          have HT5 : Hid (TReads w5 (.slice (some ⟨g, 0, none⟩) fs.length cp) its) := tReads_of hpm.r hpm.len (fun x hx => (hpm.s x hx).1)
          have HP5 : Hid (its.Perm (fs.map (fcI R))) := hpm.p
          have hl5 : its.length ≤ 100000 := by rw [hpm.len]; exact hl
          obtain ⟨r0, r1⟩ := hX5.at
          have HL5 : Hid (Lies R w5.heap.size w5) := hL5
          have HB5 : Hid (Below w.heap.size w w5) := hb5
          clear hpm hL5 hX5 hb5 hXb
          go_wp2_with fail
          refine (folded_any R HR.out wm hwt _ its _ HL5.out HT5.out (HIO.out its HP5.out) hl5).mono ?_
          rintro e w6 hd
          obtain ⟨v', rfl, hfc, va, vn, vc, rfl⟩ := HEnd.out its _ _ _ HP5.out HB5.out hd
          have HE6 : Hid (FcPost R wm fs w (.returned (.tuple #[.slice va vn vc, .int .i64 0])) w6) := hfc
          clear hd hfc r0 r1
          go_wp2_with fail
          go_ret2
          exact HE6.out
  · have hb0 : (fE R 0 wm == 0) = false := by simp [hf]
    have HEnd : Hid (FcPost R wm fs w (.returned (.tuple #[.slice none 0 0, .int .i64 (fE R 0 wm)])) w2) := ⟨HB2.out, .inl ⟨hf, rfl⟩⟩
    clear hf
    generalize fE R 0 wm = rr at *
    go_wp2_with fail
    go_ret2
    exact HEnd.out
end Go.Proofs.YtgjcopabmdbenaaGreat
