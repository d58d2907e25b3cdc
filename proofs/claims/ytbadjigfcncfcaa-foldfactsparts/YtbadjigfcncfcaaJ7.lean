/- FL15 FL16 R1g OR FA0, joined. -/
import Derived.Test.YtbadjigfcncfcaaJ6
import Derived.BigQuiet
import Derived.Deep.QuietTactic
import Derived.WalkKit
import Derived.ProofKit
import Derived.OpenShut
import Derived.Lib.SmallJoins
import Derived.Deep.SlicePairs
/- The contract of fold.Facts. -/
namespace Go.Proofs.Ytbadjigfcncfcaa
open Go.RowKit Go.Shelf

theorem take_fa {fs : List Fa} {R : Rl} {k : Nat} (hk : k < fs.length) : ((fs.take (k + 1)).map (fcI R)).flatMap c9 = ((fs.take k).map (fcI R)).flatMap c9 ++ c9 (fcI R fs[k]) := by
  rw [List.take_add_one, List.getElem?_eq_getElem hk, List.map_append, List.flatMap_append]
  simp
theorem FcI.snoc {R : Rl} {w w1 : World} {fs : List Fa} {k : Nat} {v v' : Value} {wr W : World} {o : Obj} (h : FcI R w w1 fs k v wr) (hk : k < fs.length) (hm : mayF fs[k] = true) (hown : W.ownsRow w1.heap.size 75 9 v' (k + 1) (((fs.take k).map (fcI R)).flatMap c9 ++ c9 (fcI R fs[k]))) (hg : (wr.alloc o).grownBy W v.ownBlock) : FcI R w w1 fs (k + 1) v' W := by
  refine ⟨by rw [take_fa hk]; exact hown, fun j hj hjk => ?_, ?_⟩
  · rcases Nat.lt_or_ge j k with h1 | h1
    · exact h.m j hj h1
    · have : j = k := by omega
      subst this; exact hm
  · exact (h.b.alloc h.b.size o).grown hg (by have := h.b.size; simp; omega) (fun t ht => (World.ownsRow.lt h.r t ht).1)
set_option maxRecDepth 100000 in
set_option maxHeartbeats 8000000 in
theorem facts_any (R : Rl) (wm : Int) (v : Value) (fs : List Fa) (w : World) (hL : Lies R w.heap.size w) (hF : FReads w v fs) (hl : fs.length ≤ 100000) (hS : Sorts fs.length) :
    Calls Try.prog 19 #[.agg #[.slice R.a R.len R.cap, .int .i64 R.kp], .int .i64 wm, v] w (FcPost R wm fs w) := by
  have HF : Hid (FReads w v fs) := hF
  have HL : Hid (Lies R w.heap.size w) := hL
  have HS : Hid (Sorts fs.length) := hS
  obtain ⟨a, cap, rfl, hm1, hm2⟩ := hF.form
  unfold maxLen at hm2
  clear hF hL hS
  obtain ⟨w1, HW1⟩ := hid_ex (w.alloc (.cells #[.slice R.a R.len R.cap, .int .i64 R.kp] 33))
  have hb1 : Below w.heap.size w w1 := by rw [HW1.out]; exact new_below _ _
  have HX1 : Hid (RBox R w.heap.size w1) := by rw [HW1.out]; exact RBox.new R w _
  have HL1 : Hid (Lies R w1.heap.size w1) := HL.out.at hb1
  have HB1 : Hid _ := hb1
  clear hb1
  go_enter Try.func19, Try.ntmps19
  go_wp2_with fail
  rw [← HW1.out]
  clear HW1
  refine (fault15_any R wm _ HL1.out).mono ?_
  rintro e w2 ⟨rfl, hb2⟩
  have HB2 : Hid (Below w.heap.size w w2) := HB1.out.trans (hb2.mono HB1.out.size)
  have HX2 : Hid (RBox R w.heap.size w2) := HX1.out.below hb2
  clear hb2 HB1 HX1 HL1
  by_cases hf : fE R 0 wm = 0
  · have HFE : Hid (fE R 0 wm = 0) := hf
    have HR : Hid (RightP R) := (fE_ok hf).1
    have hwt : isT wm = true := (fE_ok hf).2.2
    rw [hf]
    clear hf
    have HI0 : Hid (FcI R w w2 fs 0 (.slice none 0 0) w2) := ⟨World.ownsRow_nil _ _ _ _, fun j hj h => by omega, Below.refl _ _⟩
    have HLI : Hid (∀ W, Below w2.heap.size w2 W → Lies R W.heap.size W ∧ RBox R w.heap.size W ∧ Below w.heap.size w W) := fun W hW => ⟨HL.out.at (HB2.out.trans (hW.mono HB2.out.size)), HX2.out.below hW, HB2.out.trans (hW.mono HB2.out.size)⟩
    obtain ⟨i0, hinf, hz0, hz1, hz2⟩ := info_parts infoIt
    go_wp2_with fail
    go_loopw [9, 23] (fun iv i wr => ∃ k : Nat, i = .int .i64 (k : Int) ∧ k ≤ fs.length ∧ Hid (FcI R w w2 fs k iv wr)) (fun _ i _ => fs.length - (intOf i).toNat)
    case atStart => exact ⟨0, rfl, by omega, HI0⟩
    case round =>
      clear HI0
      obtain ⟨k, rfl, hk, HC⟩ := hrel
      by_cases hlt : k < fs.length
      · obtain ⟨b, off, rfl, hbw, hcw, hsr, hfb⟩ := HF.out.at hlt
        obtain ⟨hLr, hXr, hbr⟩ := HLI.out _ HC.out.b
        have hc : ∀ i (hi : i < 3), wr.cell? ⟨b, off + k * 3 + i, none⟩ = some ((c3 fs[k])[i]'hi) := fun i hi => (hbr.cell (p := ⟨b, off + k * 3 + i, none⟩) hbw).trans (hcw i hi)
        have hsr2 := hsr.below hbr
        have HBAD : Hid (mayF fs[k] = false → fs.all mayF = false) := fun h => all_not hlt h
        have HSN : Hid (∀ (v v' : Value) (wr' W : World) (o : Obj), FcI R w w2 fs k v wr' → mayF fs[k] = true → W.ownsRow w2.heap.size 75 9 v' (k + 1) (((fs.take k).map (fcI R)).flatMap c9 ++ c9 (fcI R fs[k])) → (wr'.alloc o).grownBy W v.ownBlock → FcI R w w2 fs (k + 1) v' W) := fun v v' wr' W o h1 h2 h3 h4 => h1.snoc hlt h2 h3 h4
        obtain ⟨X, HX⟩ := hid_ex fs[k]
        rw [← HX.out] at hc hfb hsr2 HBAD HSN
        obtain ⟨va, vc, hvd, _⟩ := hsr2.form
        obtain ⟨dn, Hdn⟩ := hid_ex X.D.length
        rw [← Hdn.out] at hvd
        rw [hvd] at hsr2
        have c0 := hc 0 (by decide)
        have c1 := hc 1 (by decide)
        have c2 := hc 2 (by decide)
        simp only [c3, List.getElem_cons_zero, List.getElem_cons_succ, Nat.add_zero] at c0 c1 c2
        rw [hvd] at c0
        obtain ⟨w3, HW3⟩ := hid_ex (wr.alloc (.cells #[.slice va dn vc, .int .i64 X.t, .int .i64 X.x] 47))
        have hb3 : Below wr.heap.size wr w3 := by rw [HW3.out]; exact new_below _ _
        have HC3 : Hid (FcI R w w2 fs k u9 w3) := HC.out.below hb3
        have HBX : Hid (w3.heap[wr.heap.size]? = some (.cells #[.slice va dn vc, .int .i64 X.t, .int .i64 X.x] 47)) := by rw [HW3.out]; exact heap_alloc_new _ _
        have HSR3 : Hid (SReads w3 (.slice va dn vc) X.D) := hsr2.below hb3
        have f1 : w3.cell? ⟨wr.heap.size, 1, none⟩ = some (.int .i64 X.t) := by rw [Go.Joins.cell_of_block HBX.out]; rfl
        obtain ⟨hL3, hX3, _⟩ := HLI.out _ HC3.out.b
        obtain ⟨rb, ro, hra, hrc, _⟩ := row_cells HR.out hL3 (k := 0) (by have := HR.out.1; omega)
        obtain ⟨r0, _⟩ := hX3.at
        rw [hra] at r0
        rw [show ro + 0 * 2 = ro by omega] at hrc
        have hrl : 0 < R.len := by have := HR.out.1; omega
        have hr4 : R.len ≤ 4 := HR.out.2.1
        obtain ⟨s, Hs⟩ := hid_ex (R.sz 0)
        rw [← Hs.out] at hrc
        have HDV : Hid (X.v = .slice va dn vc) := hvd
        have HSZ : Hid (isS s = true) := by rw [Hs.out]; exact sz_ok HR.out hrl
        have HXB : Hid (FaB X) := hfb
        clear hc hcw hsr hsr2 hb3 hfb hvd hbr hLr hXr hL3 hX3 HX hra
        by_cases ht : isT X.t = true
        · have HV : Hid (floorV X.t s = .tuple #[.int .i64 (X.t - X.t % s), .int .i64 0]) := by
            have h2 : isT X.t && isS s := by rw [ht, HSZ.out]; rfl
            unfold Hid floorV; rw [if_pos h2, if_pos h2]
          have HT : Hid (isT X.t = true) := ht
          have hf0 := floor0 HR.out ht
          rw [← Hs.out] at hf0
          have HFI : Hid (fcI R X = ⟨X.v, X.D, X.t - X.t % s, 0, oneF X.x⟩) := by unfold Hid fcI; rw [Hs.out]
          have HMB : Hid (mayF X = mayB X.D) := by unfold Hid mayF; rw [ht]; rfl
          obtain ⟨fr, Hfr⟩ := hid_ex (X.t - X.t % s)
          rw [← Hfr.out] at HV hf0 HFI
          clear ht
          go_wp2_with fail
          rw [← HW3.out]
          clear HW3 c0 c1 c2
          go_quiet (exact (floor_any X.t s _).mono (fun e w h => ⟨by rw [h.1, HV.out], _, h.2⟩))
          obtain ⟨w4, HW4⟩ := hid_ex (w3.drewN nq)
          have hb4 : Below w3.heap.size w3 w4 := by rw [HW4.out]; exact below_drewN (Below.refl _ _) nq
          rw [← HW4.out]
          have f0 : w4.cell? ⟨wr.heap.size, 0, none⟩ = some (.slice va dn vc) := by rw [Go.Joins.cell_of_block ((hb4.block _ (Array.getElem?_eq_some_iff.1 HBX.out).1).trans HBX.out)]; rfl
          obtain ⟨w5, HW5⟩ := hid_ex (w4.alloc (.cells #[.slice va dn vc, .int .i64 fr, .int .i64 0] 73))
          have hb5 : Below w3.heap.size w3 w5 := by rw [HW5.out]; exact hb4.alloc hb4.size _
          have HC5 : Hid (FcI R w w2 fs k u9 w5) := HC3.out.below hb5
          have HX5 : Hid (w5.heap[wr.heap.size]? = some (.cells #[.slice va dn vc, .int .i64 X.t, .int .i64 X.x] 47)) := (hb5.block _ (Array.getElem?_eq_some_iff.1 HBX.out).1).trans HBX.out
          have HY5 : Hid (w5.heap[w4.heap.size]? = some (.cells #[.slice va dn vc, .int .i64 fr, .int .i64 0] 73)) := by rw [HW5.out]; exact heap_alloc_new _ _
          have HSR5 : Hid (SReads w5 (.slice va dn vc) X.D) := HSR3.out.below hb5
          have HKL : Hid (KLies ⟨.slice va dn vc, X.D, fr, 0⟩ w5) := ⟨HSR5.out, by show (-9223372036854775808 : Int) ≤ fr; omega, by show fr ≤ (9223372036854775807 : Int); omega, by show (-9223372036854775808 : Int) ≤ 0; omega, by show (0 : Int) ≤ 9223372036854775807; omega⟩
          have HRB : Hid (rightBK X.D fr 0 = mayB X.D) := by
            unfold Hid rightBK
            rw [decide_eq_true (by omega), Bool.and_true]
          have HRC : Hid (Calls Try.prog 34 #[.agg #[.slice va dn vc, .int .i64 fr, .int .i64 0]] w5 fun e w' => e = .returned (.bool (mayB X.D)) ∧ Below w5.heap.size w5 w') := by
            have := right_anyK ⟨.slice va dn vc, X.D, fr, 0⟩ w5 HKL.out
            rw [HRB.out] at this
            exact this
          clear hb4 hb5 HW4 HRB HKL HSR3 HBX HC3 f1 r0 hrc
          go_wp2_with fail
          rw [← HW5.out]
          clear HW5 f0
          refine HRC.out.mono ?_
          rintro e w6 ⟨rfl, hb6⟩
          have HC6 : Hid (FcI R w w2 fs k u9 w6) := HC5.out.below hb6
          have HX6 : Hid (w6.heap[wr.heap.size]? = some (.cells #[.slice va dn vc, .int .i64 X.t, .int .i64 X.x] 47)) := (hb6.block _ (Array.getElem?_eq_some_iff.1 HX5.out).1).trans HX5.out
          have HY6 : Hid (w6.heap[w4.heap.size]? = some (.cells #[.slice va dn vc, .int .i64 fr, .int .i64 0] 73)) := (hb6.block _ (Array.getElem?_eq_some_iff.1 HY5.out).1).trans HY5.out
          clear hb6 HC5 HX5 HY5 HSR5 HRC
          cases hmb : mayB X.D with
          | false =>
            have HEnd : Hid (FcPost R wm fs w (.returned (.tuple #[.slice none 0 0, .int .i64 110])) w6) := ⟨(HLI.out _ HC6.out.b).2.2, .inr (.inl ⟨HFE.out, HBAD.out (by rw [HMB.out, hmb]), rfl⟩)⟩
            clear hmb
            go_wp2_with fail
            go_ret2
            exact HEnd.out
          | true =>
            have HMF : Hid (mayF X = true) := by unfold Hid; rw [HMB.out, hmb]
            have HYV : Hid (fcI R X = ⟨.slice va dn vc, X.D, fr, 0, oneF X.x⟩) := by unfold Hid; rw [HFI.out, HDV.out]
            rw [HYV.out] at HSN
            clear hmb HMB
            go_wp2_with fail
            refine wp_region_noPanic ?_
            refine wp_region_held_drew (S := (fun w' => w'.heap[wr.heap.size]? = some (.cells #[.slice va dn vc, .int .i64 X.t, .int .i64 X.x] 47) ∧ w'.heap[w4.heap.size]? = some (.cells #[.slice va dn vc, .int .i64 fr, .int .i64 0] 73))) (by kernel_rfl) ?_ (fun hHeld => ?_)
            · exact ⟨HX6.out, HY6.out⟩
            refine wpAnyH_take (i := 0) (v := u9) rfl (by kernel_rfl) (by kernel_rfl) (by kernel_rfl) (fun _ _ _ h => h) (Or.inl ⟨by rfl, ?_⟩) (by assumption) ?_
            · (intro w1 hSw; (try dsimp only at hSw); go_simp)
            simp only [List.getElem_toArray, List.getElem_cons_zero, Act.put, List.setIfInBounds_toArray, List.set_cons_zero, List.set_cons_succ]
            refine wpAnyH_take (i := 1) (v := .agg #[.slice va dn vc, .int .i64 fr, .int .i64 0]) rfl (by kernel_rfl) (by kernel_rfl) (by kernel_rfl) (fun _ _ _ h => h) (Or.inl ⟨by rfl, ?_⟩) (by assumption) ?_
            · (intro w1 hSw; (try dsimp only at hSw); have h0 := (cell_row hSw.2 0 (by simp)).1; have h1 := (cell_row hSw.2 1 (by simp)).1; have h2 := (cell_row hSw.2 2 (by simp)).1; simp only [List.getElem_toArray, List.getElem_cons_succ, List.getElem_cons_zero] at h0 h1 h2; go_simp)
            simp only [List.getElem_toArray, List.getElem_cons_succ, List.getElem_cons_zero, Act.put, List.setIfInBounds_toArray, List.set_cons_zero, List.set_cons_succ]
            refine wpAnyH_take (i := 2) (v := .pointer (some ⟨wr.heap.size, 2, none⟩)) rfl (by kernel_rfl) (by kernel_rfl) (by kernel_rfl) (fun _ _ _ h => h) (Or.inl ⟨by rfl, ?_⟩) (by assumption) ?_
            · (intro w1 hSw; (try dsimp only at hSw); go_simp)
            simp only [List.getElem_toArray, List.getElem_cons_succ, List.getElem_cons_zero, Act.put, List.setIfInBounds_toArray, List.set_cons_zero, List.set_cons_succ]
            refine wpAnyH_take (i := 3) (v := .int .i64 X.x) rfl (by kernel_rfl) (by kernel_rfl) (by kernel_rfl) (fun _ _ _ h => h) (Or.inl ⟨by rfl, ?_⟩) (by assumption) ?_
            · (intro w1 hSw; (try dsimp only at hSw); have h2 := (cell_row hSw.1 2 (by simp)).1; simp only [List.getElem_toArray, List.getElem_cons_succ, List.getElem_cons_zero] at h2; go_simp)
            simp only [List.getElem_toArray, List.getElem_cons_succ, List.getElem_cons_zero, Act.put, List.setIfInBounds_toArray, List.set_cons_zero, List.set_cons_succ]
            refine wpAnyH_ready (rs := [4]) (by kernel_rfl) (by simp) ?_
            refine AllReadyH.cons (o := _) rfl (fun K hK => ?_) AllReadyH.nil
            go_simp
            refine (one_any X.x HXB.out.x1 HXB.out.x2 _).mono ?_
            rintro e w7 ⟨rfl, hb7⟩
            have HW7 : Hid (Below w6.heap.size w6 w7) := (Below.refl w6.heap.size w6).drew.trans hb7
            clear hb7
            have HC7 : Hid (FcI R w w2 fs k u9 w7) := HC6.out.below HW7.out
            have HX7 : Hid (w7.heap[wr.heap.size]? = some (.cells #[.slice va dn vc, .int .i64 X.t, .int .i64 X.x] 47)) := (HW7.out.block _ (Array.getElem?_eq_some_iff.1 HX6.out).1).trans HX6.out
            have HY7 : Hid (w7.heap[w4.heap.size]? = some (.cells #[.slice va dn vc, .int .i64 fr, .int .i64 0] 73)) := (HW7.out.block _ (Array.getElem?_eq_some_iff.1 HY6.out).1).trans HY6.out
            refine hK.out _ _ ?_ (fun hHeld => ?_)
            · exact ⟨HX7.out, HY7.out⟩
            clear hK K
            refine wpAnyH_take (i := 5) (v := .agg #[.slice va dn vc, .int .i64 fr, .int .i64 0, .int .u64 (oneF X.x).c, .bool (oneF X.x).o, .int .i64 (hi (oneF X.x).s), .int .u64 (lo (oneF X.x).s), .int .i64 (oneF X.x).mn, .int .i64 (oneF X.x).mx]) rfl (by kernel_rfl) (by kernel_rfl) (by kernel_rfl) (fun _ _ _ h => h) (Or.inl ⟨by rfl, ?_⟩) (by assumption) ?_
            · (intro w1 hSw; (try dsimp only at hSw); go_simp)
            simp only [List.getElem_toArray, List.getElem_cons_succ, List.getElem_cons_zero, Act.put, List.setIfInBounds_toArray, List.set_cons_zero, List.set_cons_succ]
            refine wpAnyH_ready (rs := [6]) (by kernel_rfl) (by simp) ?_
            refine AllReadyH.cons (o := _) rfl (fun K hK => ?_) AllReadyH.nil
            go_simp
            refine hK.out _ _ ?_ (fun hHeld => ?_)
            · exact ⟨(Below.heap_alloc _ _ _ (Array.getElem?_eq_some_iff.1 HX7.out).1).trans HX7.out, (Below.heap_alloc _ _ _ (Array.getElem?_eq_some_iff.1 HY7.out).1).trans HY7.out⟩
            clear hK K
            obtain ⟨v8, w8, hrun, hown8, hg8, _⟩ := run_append_own (P := Try.prog) (w7.alloc (.cells (c9 ⟨.slice va dn vc, X.D, fr, 0, oneF X.x⟩).toArray 75)) w2.heap.size 68 68 75 i0 _ 9 88 Try.underlying68 hinf hz0 hz1 hz2 rfl (by decide) u9 k _ (HC7.out.r.alloc _) ⟨w7.heap.size, 0, none⟩ 1 1 (c9 ⟨.slice va dn vc, X.D, fr, 0, oneF X.x⟩) rfl (news7 w7 _) (one9 rfl) (by unfold maxLen; omega) (by omega) (by have := HC7.out.b.size; simp; omega)
            have HN8 : Hid (FcI R w w2 fs (k + 1) v8 w8) := HSN.out u9 v8 w7 w8 _ HC7.out HMF.out hown8 hg8
            have HX8 : Hid (w8.heap[wr.heap.size]? = some (.cells #[.slice va dn vc, .int .i64 X.t, .int .i64 X.x] 47) ∧ w8.heap[w4.heap.size]? = some (.cells #[.slice va dn vc, .int .i64 fr, .int .i64 0] 73)) := by
              have hrw : ∀ t, u9.ownBlock = some t → ∃ cur, w7.heap[t]? = some (.cells cur 75) := fun t ht => by
                rcases HC7.out.r.2 with ⟨q, _⟩ | ⟨g0, c0, cur, q, _, hw, _⟩
                · rw [q] at ht; simp [Value.ownBlock] at ht
                · rw [q] at ht; simp [Value.ownBlock] at ht; subst ht; exact ⟨cur, hw⟩
              have hkp : ∀ (t : Nat) (cs : Array Value) (T : TypeId), w7.heap[t]? = some (Obj.cells cs T) → T ≠ 75 → w8.heap[t]? = some (Obj.cells cs T) := fun t cs T q hT => by
                have hl := (Array.getElem?_eq_some_iff.1 q).1
                refine (hg8.block t (by simp; omega) (fun e => ?_)).trans ((Below.heap_alloc _ _ _ hl).trans q)
                obtain ⟨cur, hc⟩ := hrw t e.symm
                exact absurd rfl (typ_ne q hc hT)
              exact ⟨hkp _ _ _ HX7.out (by decide), hkp _ _ _ HY7.out (by decide)⟩
            clear hown8 hg8
            refine wpAnyH_ready (rs := [7]) (by kernel_rfl) (by simp) ?_
            refine AllReadyH.cons (o := _) rfl (fun K hK => ?_) AllReadyH.nil
            refine wp_app_run _ _ _ _ rfl rfl _ _ _ rfl rfl hrun ?_
            refine hK.out _ _ ?_ (fun hHeld => ?_)
            · exact HX8.out
            clear hK K
            refine wpAnyH_take (i := 8) (v := v8) rfl (by kernel_rfl) (by kernel_rfl) (by kernel_rfl) (fun _ _ _ h => h) (Or.inl ⟨by rfl, ?_⟩) (by assumption) ?_
            · (intro w1 hSw; (try dsimp only at hSw); go_simp)
            simp only [List.getElem_toArray, List.getElem_cons_succ, List.getElem_cons_zero, Act.put, List.setIfInBounds_toArray, List.set_cons_zero, List.set_cons_succ]
            clear hHeld
            refine wpAnyH_done (by kernel_rfl) ?_ _
            refine NoPanic.normal ?_
            clear hrun HC6 HC7 HX6 HY6 HX7 HY7
            go_wp2_with fail
            go_roundw
            case rel => exact ⟨k + 1, by go_num, by omega, HN8⟩
            case measure => simp [intOf]; omega
        · have htf : isT X.t = false := by simpa using ht
          have HV : Hid (floorV X.t s = .tuple #[.int .i64 0, .int .i64 1]) := by
            have h2 : ¬ ((isT X.t && isS s) = true) := by rw [htf]; simp
            unfold Hid floorV; rw [if_neg h2, if_neg h2]
          have HEnd : Hid (∀ W, Below w2.heap.size w2 W → FcPost R wm fs w (.returned (.tuple #[.slice none 0 0, .int .i64 110])) W) := fun W hW => ⟨(HLI.out _ hW).2.2, .inr (.inl ⟨HFE.out, HBAD.out (by unfold mayF; rw [htf]; rfl), rfl⟩)⟩
          clear ht htf
          go_wp2_with fail
          rw [← HW3.out]
          clear HW3 c0 c1 c2
          go_quiet (exact (floor_any X.t s _).mono (fun e w h => ⟨by rw [h.1, HV.out], _, h.2⟩))
          obtain ⟨w4, HW4⟩ := hid_ex (w3.drewN nq)
          have hb4 : Below w3.heap.size w3 w4 := by rw [HW4.out]; exact below_drewN (Below.refl _ _) nq
          rw [← HW4.out]
          have f0 : w4.cell? ⟨wr.heap.size, 0, none⟩ = some (.slice va dn vc) := by rw [Go.Joins.cell_of_block ((hb4.block _ (Array.getElem?_eq_some_iff.1 HBX.out).1).trans HBX.out)]; rfl
          have HE5 : Hid (FcPost R wm fs w (.returned (.tuple #[.slice none 0 0, .int .i64 110])) (w4.alloc (.cells #[.slice va dn vc, .int .i64 0, .int .i64 0] 73))) := HEnd.out _ (HC3.out.below (hb4.alloc hb4.size _)).b
          clear hb4 HW4
          go_wp2_with fail
          go_ret2
          exact HE5.out
      · obtain rfl : k = fs.length := by omega
        obtain ⟨hLr, hXr, hbr⟩ := HLI.out _ HC.out.b
        have HMA : Hid (∀ f ∈ fs, mayF f = true) := fun f hf => by
          obtain ⟨j, hj, rfl⟩ := List.getElem_of_mem hf
          exact HC.out.m j hj hj
        have HEnd : Hid (∀ (its : List It) (W V : World) (e : Ending), its.Perm (fs.map (fcI R)) → Below w.heap.size w W → FdPost R wm its W e V → ∃ v', e = .returned v' ∧ FcPost R wm fs w (.returned (.tuple #[v', .int .i64 0])) V ∧ ∃ a n c, v' = .slice a n c) := fun its W V e hp hW hd => by
          obtain ⟨v', xs, rfl, ho, hm3, hc3, hb3⟩ := hd
          have hrd := ho.reads hc3
          have e2 : foldF R wm (its.map itE) = foldF R wm (fs.map (fcE R)) := by
            have hq : (its.map itE).Perm ((fs.map (fcI R)).map itE) := hp.map _
            rw [List.map_map] at hq
            refine perm_fold hq (fun y hy => ?_)
            obtain ⟨x, hx, rfl⟩ := List.mem_map.1 hy
            obtain ⟨f, hf, rfl⟩ := List.mem_map.1 (hp.mem_iff.1 hx)
            exact oneF_gd f.x
          rw [hm3, e2] at hrd
          obtain ⟨a, c, hv, _⟩ := hrd.form
          exact ⟨v', rfl, ⟨hW.trans (hb3.mono hW.size), .inr (.inr ⟨HFE.out, all_may (fun j hj => HMA.out _ (List.getElem_mem hj)), v', rfl, hrd⟩)⟩, a, _, c, hv⟩
        have HIO : Hid (∀ (its : List It), its.Perm (fs.map (fcI R)) → ∀ x ∈ its, ItOk R x) := fun its hp x hx => by
          obtain ⟨f, hf, rfl⟩ := List.mem_map.1 (hp.mem_iff.1 hx)
          exact fcI_ok HR.out (HMA.out f hf)
        have HTK : Hid (((fs.take fs.length).map (fcI R)) = fs.map (fcI R)) := by unfold Hid; rw [List.take_length]
        rcases HC.out.r.2 with ⟨hnil, h0⟩ | ⟨g, cp, cur, hu9, hgb, hgw, hcp, hcm, _, _⟩
        · have HTN : Hid (TReads wr (.slice none 0 0) []) := ⟨none, 0, rfl, by simp, by simp, .inl rfl⟩
          have HFN : Hid (([] : List It).Perm (fs.map (fcI R))) := by
            have : fs = [] := List.length_eq_zero_iff.1 h0
            rw [this]
            exact List.Perm.refl _
          obtain ⟨r0, r1⟩ := hXr.at
          have HLr : Hid (Lies R wr.heap.size wr) := hLr
          have HBr : Hid (Below w.heap.size w wr) := hbr
          rw [hnil]
          clear hnil h0 hLr hXr hbr hinf hz0 hz1 hz2 HTK
          go_wp2_with fail
          refine (sort_nil _).mono ?_
          rintro e w5 ⟨⟨sv, rfl⟩, hw5⟩
          rw [hw5]
          clear hw5 w5
          go_wp2_with fail
          refine (folded_any R HR.out wm hwt _ [] _ HLr.out HTN.out (fun x hx => by cases hx) (by simp)).mono ?_
          rintro e w6 hd
          obtain ⟨v', rfl, hfc, va, vn, vc, rfl⟩ := HEnd.out [] _ _ _ HFN.out HBr.out hd
          have HE6 : Hid (FcPost R wm fs w (.returned (.tuple #[.slice va vn vc, .int .i64 0])) w6) := hfc
          clear hd hfc r0 r1
          go_wp2_with fail
          go_ret2
          exact HE6.out
        · have HPM : Hid (PmI w2 w2.heap.size g fs.length cp (fs.map (fcI R)) (fs.map (fcI R)) wr) := by
            have hr := HC.out.r
            rw [HTK.out, hu9] at hr
            refine ⟨List.Perm.refl _, hr, fun x hx => ?_, HC.out.b⟩
            obtain ⟨f, hf, rfl⟩ := List.mem_map.1 hx
            obtain ⟨j, hj, rfl⟩ := List.getElem_of_mem hf
            obtain ⟨b, off, _, _, _, hsr, hfb⟩ := HF.out.at hj
            refine ⟨hsr.below hbr, fun h0 b' hb' => ?_, fcI_b HR.out ?_⟩
            · have h1 := sreads_lt hsr h0 b' hb'
              have h2 := HB2.out.size
              omega
            · have := HMA.out _ (List.getElem_mem hj)
              unfold mayF at this
              simp only [Bool.and_eq_true] at this
              exact this.1
          have hXb := HX2.out
          rw [hu9]
          clear hu9 hLr hXr hbr hinf hz0 hz1 hz2 HTK hgb hgw
          go_wp2_with fail
          refine (HS.out w2 w2.heap.size g cp _ _ _ HPM.out).mono ?_
          rintro e w5 ⟨⟨sv, rfl⟩, its, hpm⟩
          obtain ⟨hL5, hX5, hb5⟩ := HLI.out _ hpm.b
          have HT5 : Hid (TReads w5 (.slice (some ⟨g, 0, none⟩) fs.length cp) its) := tReads_of hpm.r hpm.len (fun x hx => (hpm.s x hx).1)
          have HP5 : Hid (its.Perm (fs.map (fcI R))) := hpm.p
          have hl5 : its.length ≤ 100000 := by rw [hpm.len]; exact hl
          obtain ⟨r0, r1⟩ := hX5.at
          have HL5 : Hid (Lies R w5.heap.size w5) := hL5
          have HB5 : Hid (Below w.heap.size w w5) := hb5
          clear hpm hL5 hX5 hb5 hXb
          go_wp2_with fail
          refine (folded_any R HR.out wm hwt _ its _ HL5.out HT5.out (HIO.out its HP5.out) hl5).mono ?_
          rintro e w6 hd
          obtain ⟨v', rfl, hfc, va, vn, vc, rfl⟩ := HEnd.out its _ _ _ HP5.out HB5.out hd
          have HE6 : Hid (FcPost R wm fs w (.returned (.tuple #[.slice va vn vc, .int .i64 0])) w6) := hfc
          clear hd hfc r0 r1
          go_wp2_with fail
          go_ret2
          exact HE6.out
  · have hb0 : (fE R 0 wm == 0) = false := by simp [hf]
    have HEnd : Hid (FcPost R wm fs w (.returned (.tuple #[.slice none 0 0, .int .i64 (fE R 0 wm)])) w2) := ⟨HB2.out, .inl ⟨hf, rfl⟩⟩
    clear hf
    generalize fE R 0 wm = rr at *
    go_wp2_with fail
    go_ret2
    exact HEnd.out
end Go.Proofs.Ytbadjigfcncfcaa

/- The contract of law15's Rules and alive. -/
namespace Go.Proofs.Ytbadjigfcncfcaa
open Go.RowKit Go.Shelf

def sz15 : Nat → Int | 0 => 1 | _ => 10
def ag15 : Nat → Int | 0 => 0 | _ => 20
def rl15 (b : Nat) : Rl := ⟨some ⟨b, 0, none⟩, 2, 2, sz15, ag15, 100⟩
theorem right15 (b : Nat) : RightP (rl15 b) := by
  refine ⟨by show (1 : Nat) ≤ 2; omega, by show (2 : Nat) ≤ 4; omega, rfl, fun i hi => ?_, by show (20 : Int) ≤ 100; decide, by show (100 : Int) ≤ 2199023255552; decide⟩
  have hi2 : i < 2 := hi
  match i, hi2 with
  | 0, _ => exact ⟨by show isS 1 = true; decide, by show isT 0 = true; decide, fun h => by omega⟩
  | 1, _ => exact ⟨by show isS 10 = true; decide, by show isT 20 = true; decide, fun _ => by show folB 1 0 10 20 = true; decide⟩
set_option maxRecDepth 100000 in
theorem rules_any (w : World) : Calls Try.prog 26 #[] w fun e w' => ∃ b, e = .returned (.agg #[.slice (some ⟨b, 0, none⟩) 2 2, .int .i64 100]) ∧ Lies (rl15 b) w'.heap.size w' ∧ Below w.heap.size w w' := by
  go_enter Try.func26, Try.ntmps26
  go_wp2_with fail
  refine bodyPost_ret (v := .agg #[.slice (some ⟨w.heap.size + 1, 0, none⟩) 2 2, .int .i64 100]) (by simp [results, Try.results26, go_sem]) rfl ⟨w.heap.size + 1, rfl, ?_, ((Below.refl _ _).alloc (Nat.le_refl _) _).alloc (by simp) _⟩
  refine ⟨by show 2 ≤ maxLen; decide, Nat.le_refl _, .inr ⟨w.heap.size + 1, 0, rfl, by simp, fun i hi => ?_⟩⟩
  have hi' : i < 2 := hi
  match i, hi' with
  | 0, _ => simp [go_sem, rl15, sz15, ag15]
  | 1, _ => simp [go_sem, rl15, sz15, ag15]
/-- The three facts. -/
def fa3 : List Fa := [⟨.slice none 0 0, [], 12, 3⟩, ⟨.slice none 0 0, [], 45, 1⟩, ⟨.slice none 0 0, [], 15, 4⟩]
theorem stp_12 (b : Nat) : stp (rl15 b) 12 50 = 1 := stp_eq (right15 b) ⟨by show (1 : Nat) < 2; omega, .inr (by show endF 12 10 ≤ 50 - 20; decide), fun j h1 h2 => by have : j < 2 := h2; omega⟩
theorem stp_15 (b : Nat) : stp (rl15 b) 15 50 = 1 := stp_eq (right15 b) ⟨by show (1 : Nat) < 2; omega, .inr (by show endF 15 10 ≤ 50 - 20; decide), fun j h1 h2 => by have : j < 2 := h2; omega⟩
theorem stp_45 (b : Nat) : stp (rl15 b) 45 50 = 0 := stp_eq (right15 b) ⟨by show (0 : Nat) < 2; omega, .inl rfl, fun j h1 h2 => by
  have h3 : j < 2 := h2
  have : j = 1 := by omega
  subst this
  show ¬ endF 45 10 ≤ 50 - 20
  decide⟩
theorem fk_15 (b : Nat) {f : Int} {s : Nat} {r : Int} (hr : rightBK [] f 0 = true) (hs : stp (rl15 b) f 50 = s) (hf : f - f % (rl15 b).sz s = r) (hg : goneB (rl15 b) 50 f = false) : fk (rl15 b) 50 (kb [] f 0) = some (kb [] r (s : Int)) := by
  have h1 := rdF_kb [] f 0 hr
  rw [fk_of h1, hg]
  have e1 : stq (rl15 b) 50 f (0 : Int).toNat = s := by unfold stq; rw [hs]; show max s 0 = s; omega
  have e2 : flq (rl15 b) 50 f (0 : Int).toNat = r := by unfold flq; rw [e1]; exact hf
  rw [e1, e2]
  rfl
theorem fold_3 (b : Nat) : foldF (rl15 b) 50 (fa3.map (fcE (rl15 b))) = [(kb [] 10 1, mrg (oneF 3) (oneF 4)), (kb [] 45 0, oneF 1)] := by
  have e : fa3.map (fcE (rl15 b)) = [(kb [] 12 0, oneF 3), (kb [] 45 0, oneF 1), (kb [] 15 0, oneF 4)] := by simp [fa3, fcE, rl15, sz15]
  have k1 : fk (rl15 b) 50 (kb [] 12 0) = some (kb [] 10 1) := fk_15 b (by decide) (stp_12 b) (by show (12 : Int) - 12 % 10 = 10; decide) (by show decide (endF 12 10 ≤ 50 - 100) = false; decide)
  have k2 : fk (rl15 b) 50 (kb [] 45 0) = some (kb [] 45 0) := fk_15 b (by decide) (stp_45 b) (by show (45 : Int) - 45 % 1 = 45; decide) (by show decide (endF 45 10 ≤ 50 - 100) = false; decide)
  have k3 : fk (rl15 b) 50 (kb [] 15 0) = some (kb [] 10 1) := fk_15 b (by decide) (stp_15 b) (by show (15 : Int) - 15 % 10 = 10; decide) (by show decide (endF 15 10 ≤ 50 - 100) = false; decide)
  have hlt : ltK (kb [] 10 1) (kb [] 45 0) := by decide
  unfold foldF
  rw [e, fm_cons, fm_cons, fm_cons]
  dsimp only
  rw [k1, k2, k3]
  show ins (kb [] 10 1, oneF 3) (ins (kb [] 45 0, oneF 1) [(kb [] 10 1, oneF 4)]) = _
  rw [ins_gt (x := (kb [] 45 0, oneF 1)) (y := (kb [] 10 1, oneF 4)) hlt]
  exact ins_eq rfl
theorem fa3_reads {w : World} {t : TypeId} : FReads (w.alloc (.cells #[.slice none 0 0, .int .i64 12, .int .i64 3, .slice none 0 0, .int .i64 45, .int .i64 1, .slice none 0 0, .int .i64 15, .int .i64 4] t)) (.slice (some ⟨w.heap.size, 0, none⟩) 3 3) fa3 := by
  refine ⟨_, 3, rfl, by decide, by decide, .inr ⟨w.heap.size, 0, rfl, by simp, fun j hj => ?_⟩⟩
  have hj2 : j < 3 := hj
  have hn : SReads (w.alloc (.cells #[.slice none 0 0, .int .i64 12, .int .i64 3, .slice none 0 0, .int .i64 45, .int .i64 1, .slice none 0 0, .int .i64 15, .int .i64 4] t)) (.slice none 0 0) [] := .inl ⟨rfl, none, 0, rfl, fun _ => rfl⟩
  match j, hj2 with
  | 0, _ =>
    refine ⟨fun i hi => ?_, hn, (show FaB ⟨.slice none 0 0, [], 12, 3⟩ from ⟨by decide, by decide, by decide, by decide⟩)⟩
    rw [Go.Joins.cell_of_block (heap_alloc_new _ _)]
    match i, hi with
    | 0, _ => rfl
    | 1, _ => rfl
    | 2, _ => rfl
  | 1, _ =>
    refine ⟨fun i hi => ?_, hn, (show FaB ⟨.slice none 0 0, [], 45, 1⟩ from ⟨by decide, by decide, by decide, by decide⟩)⟩
    rw [Go.Joins.cell_of_block (heap_alloc_new _ _)]
    match i, hi with
    | 0, _ => rfl
    | 1, _ => rfl
    | 2, _ => rfl
  | 2, _ =>
    refine ⟨fun i hi => ?_, hn, (show FaB ⟨.slice none 0 0, [], 15, 4⟩ from ⟨by decide, by decide, by decide, by decide⟩)⟩
    rw [Go.Joins.cell_of_block (heap_alloc_new _ _)]
    match i, hi with
    | 0, _ => rfl
    | 1, _ => rfl
    | 2, _ => rfl
theorem chkN : chkF rlN 0 [] = 30 := by
  have h : fE rlN 0 0 ≠ 0 := by rw [fEN]; decide
  rw [chkF_e h, fEN]
theorem eReads_none (w : World) : EReads w (.slice none 0 0) [] := ⟨none, 0, rfl, by simp, by simp, .inl rfl⟩
set_option maxRecDepth 100000 in
set_option maxHeartbeats 2000000 in
theorem alive15_any (w : World) : Calls Try.prog 14 #[] w fun e w' => e = .returned (.bool true) ∧ Below w.heap.size w w' := by
  go_enter Try.func14, Try.ntmps14
  go_wp2_with fail
  refine (rules_any _).mono ?_
  rintro e w1 ⟨b, rfl, hL1, hb1⟩
  have HB1 : Hid (Below w.heap.size w w1) := hb1
  obtain ⟨w2, HW2⟩ := hid_ex (w1.alloc (.cells #[.slice none 0 0, .int .i64 12, .int .i64 3, .slice none 0 0, .int .i64 45, .int .i64 1, .slice none 0 0, .int .i64 15, .int .i64 4] 47))
  have hb2 : Below w1.heap.size w1 w2 := by rw [HW2.out]; exact new_below _ _
  have HF2 : Hid (FReads w2 (.slice (some ⟨w1.heap.size, 0, none⟩) 3 3) fa3) := by rw [HW2.out]; exact fa3_reads
  have HL2 : Hid (Lies (rl15 b) w2.heap.size w2) := hL1.at hb2
  have HB2 : Hid (Below w.heap.size w w2) := HB1.out.trans (hb2.mono HB1.out.size)
  clear hL1 hb1 hb2
  go_wp2_with fail
  rw [← HW2.out]
  refine (facts_any (rl15 b) 50 _ fa3 _ HL2.out HF2.out (by decide) (sorts_small 3 (by omega))).mono ?_
  rintro e w3 ⟨hb3, ⟨h, _⟩ | ⟨_, h, _⟩ | ⟨_, _, v, rfl, hE⟩⟩
  · exact absurd (fE_of (right15 b) (by decide) (by decide)) h
  · exact absurd h (by decide)
  rw [fold_3] at hE
  have HB3 : Hid (Below w.heap.size w w3) := HB2.out.trans (hb3.mono HB2.out.size)
  obtain ⟨eb, eo, ec, rfl, hebl⟩ := eReads_some hE (by decide)
  obtain ⟨kv0, hc0, _⟩ := eReads_at hE (k := 0) (by decide) rfl
  obtain ⟨kv1, hc1, _⟩ := eReads_at hE (k := 1) (by decide) rfl
  have p0 : w3.cell? ⟨eb, eo + 1, none⟩ = some (.int .u64 2) := hc0 1 (by decide)
  have p1 : w3.cell? ⟨eb, eo + 1 + 5, none⟩ = some (.int .i64 4) := hc0 6 (by decide)
  have p2 : w3.cell? ⟨eb, eo + 7 + 1, none⟩ = some (.int .u64 1) := hc1 1 (by decide)
  clear hb3 hE hc0 hc1 HW2
  go_wp2_with fail
  refine (fold_any rlN 0 _ [] _ (rlN_lies _) (eReads_none _) (by simp) (fun x hx => by cases hx)).mono ?_
  rintro e w4 ⟨hb4, ⟨_, he⟩ | ⟨h, _⟩⟩
  · rw [chkN] at he
    subst he
    have HB4 : Hid (Below w.heap.size w w4) := HB3.out.trans (hb4.mono HB3.out.size)
    have q0 := (hb4.cell (p := ⟨eb, _, none⟩) hebl).trans p0
    have q1 := (hb4.cell (p := ⟨eb, _, none⟩) hebl).trans p1
    have q2 := (hb4.cell (p := ⟨eb, _, none⟩) hebl).trans p2
    clear hb4 p0 p1 p2
    go_wp2_with fail
    refine (fits_any rlN _ [] _ (rlN_lies _) (eReads_none _) (by simp) (fun x hx => by cases hx)).mono ?_
    rintro e w5 ⟨he5, hb5⟩
    have HB5 : Hid (Below w.heap.size w w5) := HB4.out.trans (hb5.mono HB4.out.size)
    rw [fitsA_of (b := true) ⟨fun _ => .inl rfl, fun _ => rfl⟩] at he5
    subst he5
    clear hb5
    go_wp2_with fail
    go_ret
    exact ⟨rfl, HB5.out⟩
  · rw [chkN] at h
    exact absurd h (by decide)
end Go.Proofs.Ytbadjigfcncfcaa

/- A cell that is there lies in a block that is there. -/
namespace Go.Proofs.Ytbadjigfcncfcaa
open Go.RowKit
end Go.Proofs.Ytbadjigfcncfcaa

/- Rules, as an argument by value: the value written out, and where the steps lie. -/
namespace Go.Proofs.Ytbadjigfcncfcaa
open Go.ChangeShapes Go.WideShapes Go.ChangeAt Go.RowKit Go.Joins Go.Deep

set_option maxRecDepth 100000 in
theorem openR {H : Type} {enc : TypeId × Value → H} {W : World} {r : Reach} {b0 base : Nat} {spare : Nat → Bool} {held : Bool} {v : Value} {d : DataW H} {p : List MemPlace}
    (hv : Value.okWide Try.prog W r b0 33 v) (h : DataW.Trod enc Try.prog W base spare held 33 v d p) :
    ∃ R : Rl, v = .agg #[.slice R.a R.len R.cap, .int .i64 R.kp] ∧ Lies R W.heap.size W := by
  obtain ⟨v0, v1, y0, y1, n, rfl, _, _, h0, h1⟩ := open_agg2 Try.underlying33 (by kernel_rfl) (by kernel_rfl) hv h
  obtain ⟨kp, e1, _, _⟩ := DataW.trod_int Try.underlying2 h1
  simp at e1
  subst e1
  rcases open_slice_pairs Try.underlying31 Try.underlying86 (by kernel_rfl) rfl rfl (by kernel_rfl) (by kernel_rfl) h0 with ⟨hcs, _⟩ | ⟨a, len, cap, m, k, V0, V1, D0, D1, P0, P1, hcs, _, hl, hm, hmm, _, hx⟩
  · simp at hcs
    subst hcs
    exact ⟨⟨none, 0, 0, fun _ => 0, fun _ => 0, kp⟩, rfl, Nat.zero_le _, Nat.le_refl _, .inl rfl⟩
  · simp at hcs
    subst hcs
    have hlm : len ≤ m := by rw [hmm]; split <;> omega
    have ints : ∀ i, i < m → ∃ x y, V0 i = .int .i64 x ∧ V1 i = .int .i64 y := by
      intro i hi
      obtain ⟨_, _, g0, g1⟩ := hx i hi
      obtain ⟨x, q0, _, _⟩ := DataW.trod_int Try.underlying2 g0
      obtain ⟨y, q1, _, _⟩ := DataW.trod_int Try.underlying2 g1
      simp at q0 q1
      exact ⟨x, y, q0, q1⟩
    let f : Nat → Int := fun i => intOf (V0 i)
    let g : Nat → Int := fun i => intOf (V1 i)
    refine ⟨⟨some a, len, cap, f, g, kp⟩, rfl, by show len ≤ maxLen; omega, Nat.le_refl _, ?_⟩
    rcases Nat.eq_zero_or_pos len with h00 | h00
    · exact .inl h00
    · right
      obtain ⟨c0, _, _, _⟩ := hx 0 (by omega)
      have e0 : a.add (0 * 2) = a := by simp [Addr.add]
      rw [e0] at c0
      obtain ⟨hb, hs⟩ := cell_block c0
      obtain ⟨b, off, spot⟩ := a
      simp only at hb hs
      subst hs
      refine ⟨b, off, rfl, hb, fun i hi => ?_⟩
      have hi' : i < len := hi
      obtain ⟨x, y, q0, q1⟩ := ints i (by omega)
      obtain ⟨d0, d1, _, _⟩ := hx i (by omega)
      have ea : (⟨b, off, none⟩ : Addr).add (i * 2) = ⟨b, off + i * 2, none⟩ := by simp [Addr.add]
      have eb : (⟨b, off, none⟩ : Addr).add (i * 2 + 1) = ⟨b, off + i * 2 + 1, none⟩ := by simp [Addr.add]; omega
      rw [ea] at d0
      rw [eb] at d1
      refine ⟨?_, ?_⟩
      · rw [d0, q0]; show _ = some (Value.int .i64 (intOf (V0 i))); rw [q0]; rfl
      · rw [d1, q1]; show _ = some (Value.int .i64 (intOf (V1 i))); rw [q1]; rfl
end Go.Proofs.Ytbadjigfcncfcaa

/- Entries and facts as arguments; what the laws of fold ask of its contracts. -/
namespace Go.Proofs.Ytbadjigfcncfcaa
open Go.ChangeShapes Go.WideShapes Go.ChangeAt Go.RowKit Go.Joins

set_option maxRecDepth 100000 in
theorem openE {H : Type} {enc : TypeId × Value → H} {W : World} {r : Reach} {b0 base : Nat} {spare : Nat → Bool} {held : Bool} {v : Value} {d : DataW H} {p : List MemPlace}
    (hv : Value.okWide Try.prog W r b0 25 v) (h : DataW.Trod enc Try.prog W base spare held 25 v d p) : ∃ L : List En, EReads W v L := by
  obtain ⟨a, len, cap, rfl⟩ := okWide_slice Try.underlying25 hv
  obtain ⟨fuel, hf⟩ := h
  obtain ⟨v', L, hcs, hr⟩ := openEs (fuel := fuel) (by simpa [Value.cells] using hf)
  simp at hcs
  subst hcs
  exact ⟨L, hr⟩
theorem threeF {α : Type} : ∀ {l : List α}, l.length = 3 → ∃ c0 c1 c2, l = [c0, c1, c2]
  | [c0, c1, c2], _ => ⟨c0, c1, c2, rfl⟩
theorem cellsS : Try.prog.cellsOf 45 = 1 := by kernel_rfl
set_option maxRecDepth 100000 in
theorem openF' {H : Type} {enc : TypeId × Value → H} {W : World} {base : Nat} {spare : Nat → Bool} {held : Bool} {c0 c1 c2 : Value} {x : DataW H × List MemPlace} {fuel : Nat}
    (hf : DataW.trod enc Try.prog W base spare held fuel 47 [c0, c1, c2] = some x) : ∃ f : Fa, [c0, c1, c2] = c3 f ∧ SReads W f.v f.D ∧ FaB f := by
  obtain ⟨xs, n, _, _, _, hlen, hfs⟩ := DataW.trod_struct Try.underlying47 hf
  obtain ⟨y0, g0⟩ := some_of_len (i := 0) hlen (by decide)
  obtain ⟨y1, g1⟩ := some_of_len (i := 1) hlen (by decide)
  obtain ⟨y2, g2⟩ := some_of_len (i := 2) hlen (by decide)
  have e0 := (hfs 0 _ rfl).trans g0
  have e1 := (hfs 1 _ rfl).trans g1
  have e2 := (hfs 2 _ rfl).trans g2
  simp [cellsS] at e0
  simp [cells64] at e1
  simp [cells64] at e2
  obtain ⟨D, hD⟩ := openS' e0
  obtain ⟨t, q1, _, w1⟩ := DataW.trod_int Try.underlying2 e1
  obtain ⟨v, q2, _, w2⟩ := DataW.trod_int Try.underlying2 e2
  simp at q1 q2
  subst q1 q2
  have b1 := bounds_i64 w1
  have b2 := bounds_i64 w2
  exact ⟨⟨c0, D, t, v⟩, rfl, hD, b1.1, b1.2, b2.1, b2.2⟩
set_option maxRecDepth 100000 in
theorem openF {H : Type} {enc : TypeId × Value → H} {W : World} {r : Reach} {b0 base : Nat} {spare : Nat → Bool} {held : Bool} {v : Value} {d : DataW H} {p : List MemPlace}
    (hv : Value.okWide Try.prog W r b0 42 v) (h : DataW.Trod enc Try.prog W base spare held 42 v d p) : ∃ fs : List Fa, FReads W v fs := by
  obtain ⟨a, len, cap, rfl⟩ := okWide_slice Try.underlying42 hv
  obtain ⟨fuel, hf⟩ := h
  rcases Go.Deep.open_slice Try.underlying42 hf with ⟨hcs, _⟩ | ⟨x, len', cap', m, n, D, Pl, hcs, _, hl, hm, hz, _, hcell⟩
  · simp [Value.cells] at hcs
    obtain ⟨rfl, rfl, rfl⟩ := hcs
    exact ⟨[], none, 0, rfl, by simp, by simp, .inl rfl⟩
  · simp [Value.cells] at hcs
    obtain ⟨rfl, rfl, rfl⟩ := hcs
    have hzl : len ≤ m := by rw [hz]; split <;> omega
    have hce : Try.prog.cellsOf 47 = 3 := by kernel_rfl
    rw [hce] at hcell
    have hall : ∀ j, ∃ (y : Fa), j < len → (∀ i (hi : i < 3), W.cell? (x.add (j * 3 + i)) = some ((c3 y)[i]'hi)) ∧ SReads W y.v y.D ∧ FaB y := by
      intro j
      by_cases hj : j < len
      · obtain ⟨cs', hc1, hc2⟩ := hcell j (by omega)
        obtain ⟨_, hl7, hq⟩ := World.cells?_some hc1
        obtain ⟨c0, c1, c2, rfl⟩ := threeF hl7
        obtain ⟨f, e, hr, ha⟩ := openF' hc2
        refine ⟨f, fun _ => ⟨fun i hi => ?_, hr, ha⟩⟩
        have h1 := hq i hi
        rw [e, List.getElem?_eq_getElem (show i < (c3 f).length from hi)] at h1
        have ea : (x.add (j * 3)).add i = x.add (j * 3 + i) := by
          obtain ⟨xb, xo, xs⟩ := x
          by_cases h1 : j = 0
          · subst h1; simp [Addr.add]
          · have h2 : j * 3 ≠ 0 := by omega
            have h3 : j * 3 + i ≠ 0 := by omega
            by_cases h4 : i = 0
            · subst h4; simp [Addr.add]
            · have h5 : xo + j * 3 + i = xo + (j * 3 + i) := by omega
              unfold Addr.add
              rw [if_neg h2, if_neg h4, if_neg h3]
              simp only [h5]
        rw [ea] at h1
        exact h1
      · exact ⟨⟨.bool false, [], 0, 0⟩, fun h => absurd h hj⟩
    obtain ⟨ys, hys⟩ := Classical.axiomOfChoice hall
    rcases Nat.eq_zero_or_pos len with h0 | h0
    · subst h0
      exact ⟨[], _, cap, rfl, by simp, hm, .inl rfl⟩
    · have k0 := (hys 0 h0).1 0 (by decide)
      have e0 : x.add (0 * 3 + 0) = x := by simp [Addr.add]
      rw [e0] at k0
      obtain ⟨hb, hs⟩ := cell_block k0
      obtain ⟨b, off, spot⟩ := x
      simp only at hb hs
      subst hs
      refine ⟨(List.range len).map fun j => ys j, _, cap, by simp, by simpa using hl, hm, .inr ⟨b, off, rfl, hb, fun j hj => ?_⟩⟩
      simp at hj
      obtain ⟨g1, g2, g3⟩ := hys j hj
      have ej : ((List.range len).map fun j => ys j)[j]'(by simpa using hj) = ys j := by simp
      rw [ej]
      refine ⟨fun i hi => ?_, g2, g3⟩
      have ea : (⟨b, off, none⟩ : Addr).add (j * 3 + i) = ⟨b, off + j * 3 + i, none⟩ := by rw [Nat.add_assoc]; simp [Addr.add]
      have := g1 i hi
      rw [ea] at this
      exact this
theorem jb_short : ∀ (D : List ByteArray), (∀ s ∈ D, s.size ≤ 16) → (jb D).length ≤ 35 * D.length
  | [], _ => by simp [jb]
  | s :: D, h => by
    have h1 := jb_short D (fun t ht => h t (List.mem_cons_of_mem _ ht))
    have h2 := h s (List.mem_cons_self ..)
    have h3 := tx_len s.data.toList
    have h4 : s.data.toList.length = s.size := by simp
    rw [jb_cons]
    simp only [List.length_cons, List.length_append]
    omega
/-- A key of the rules is short. -/
theorem fit_short {R : Rl} {k : Ks} (h : FitK R k) : k.length ≤ 1000 := by
  obtain ⟨D, f, g, hr, _⟩ := h
  obtain ⟨h1, h2⟩ := rdF_taken hr
  obtain ⟨hm, _⟩ := right_facts h1
  have hmm := mayB_iff.1 hm
  have h3 := jb_short D hmm.2
  have h4 := hmm.1
  rw [← h2, kb_len]
  unfold jn
  rw [List.length_append]
  simp only [List.length_cons, List.length_nil]
  omega
theorem fit_gd {R : Rl} {L : List En} (h : FitL R L) (hc : ∀ x ∈ L, CnOk x.2) : GdE L := fun x hx => ⟨hc x hx, (h x hx).r, fun h0 => absurd h0 (h x hx).c⟩
/-- Fold where it may be. -/
theorem fold_ok (R : Rl) (wm : Int) (v : Value) (L : List En) (w : World) (hL : Lies R w.heap.size w) (hE : EReads w v L) (hl : L.length ≤ 100000) (hk : ∀ x ∈ L, x.1.length ≤ 1000) (hz : chkF R wm L = 0) (A : List En) (hA : A = foldF R wm L) :
    Calls Try.prog 15 #[.agg #[.slice R.a R.len R.cap, .int .i64 R.kp], .int .i64 wm, v] w fun e w' => ∃ a cap, e = .returned (.tuple #[.slice a A.length cap, .int .i64 0]) ∧ EReads w' (.slice a A.length cap) A ∧ Below w.heap.size w w' := by
  subst hA
  refine (fold_any R wm v L w hL hE hl hk).mono ?_
  rintro e w2 ⟨hb2, ⟨hne, rfl⟩ | ⟨_, l, rfl, hr⟩⟩
  · exact absurd hz hne
  · obtain ⟨a, cap, rfl, _⟩ := hr.form
    exact ⟨a, cap, rfl, hr, hb2⟩
end Go.Proofs.Ytbadjigfcncfcaa
