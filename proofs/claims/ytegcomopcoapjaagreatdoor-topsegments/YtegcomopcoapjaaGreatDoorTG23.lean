/- WR1, joined. -/
import Derived.Test.YtegcomopcoapjaaGreatDoorTG5
import Derived.Test.YtegcomopcoapjaaGreatDoorTG6
import Derived.Test.YtegcomopcoapjaaGreatDoorTG22
import Derived.RangeFuncRecord
/- The reference's Same, of records. -/
namespace Go.Proofs.YtegcomopcoapjaaGreatDoor
open Go.RowKit Go.Shelf

theorem cellW {w : World} {b : Nat} {cs : Array Value} {T : TypeId} (h : w.heap[b]? = some (.cells cs T)) (i : Nat) (hi : i < cs.size) : w.cell? ⟨b, i, none⟩ = some cs[i] := by
  simp [World.cell?, h, hi]
theorem map_at {xs ys : List Fa} (h : xs.map Fa.p = ys.map Fa.p) {k : Nat} (h1 : k < xs.length) (h2 : k < ys.length) : xs[k].p = ys[k].p := by
  have := congrArg (fun l => l[k]?) h
  simpa [h1, h2] using this
/-- Two facts are the same? -/
def eqF (f g : Fa) : Bool := decide (f.p = g.p)
def eqR (a b : Rc) : Bool := decide (a.m = b.m ∧ a.p = b.p)
theorem eqR_len {a b : Rc} (h : ¬ a.fs.length = b.fs.length) : eqR a b = false := by
  unfold eqR; rw [decide_eq_false]; rintro ⟨_, h2⟩; apply h; have := congrArg List.length h2; simpa [Rc.p] using this
theorem p_eq {f g : Fa} : f.p = g.p ↔ f.D = g.D ∧ f.t = g.t ∧ f.x = g.x := by
  unfold Fa.p
  constructor
  · intro h; injection h with a b c; exact ⟨a, b, c⟩
  · rintro ⟨a, b, c⟩; rw [a, b, c]
theorem st3 {w W : World} {g : Nat} {cur : Array Value} {T : TypeId} {a b c : Value} (h : StW w W g 0 cur T [a, b, c]) (hc : cur.size = 3 := by simp) : W.heap[g]? = some (.cells #[a, b, c] T) := by
  obtain ⟨cur', h1, h2, _, h4⟩ := h.c
  rw [h1]
  congr 2
  apply Array.ext
  · rw [h2, hc]; rfl
  · intro i hi1 hi2
    have hi : i < 3 := by simpa using hi2
    have := h4 i hi
    rw [Nat.zero_add, Array.getElem?_eq_getElem hi1] at this
    have := Option.some.inj this
    rw [this]
    match i, hi with
    | 0, _ => rfl
    | 1, _ => rfl
    | 2, _ => rfl
set_option maxRecDepth 100000 in
set_option maxHeartbeats 4000000 in
theorem refSame_any (a b : Rc) (w : World) (ha : RcOk w a) (hb : RcOk w b) : Calls Tryz.prog 33 #[a.val, b.val] w fun e w' => e = .returned (.bool (eqR a b)) ∧ Below w.heap.size w w' := by
  obtain ⟨aa, ac, hav, ha1, ha2⟩ := ha.f.form
  obtain ⟨ba, bcp, hbv, hb1, hb2⟩ := hb.f.form
  unfold maxLen at ha2 hb2
  have HFa : Hid (FReads w (.slice aa a.fs.length ac) a.fs) := by rw [← hav]; exact ha.f
  have HFb : Hid (FReads w (.slice ba b.fs.length bcp) b.fs) := by rw [← hbv]; exact hb.f
  obtain ⟨q, Hq⟩ := hid_ex (eqR a b)
  rw [← Hq.out]
  have HQ : Hid (q = decide (a.m = b.m ∧ a.p = b.p)) := Hq.out
  unfold Rc.val
  rw [hav, hbv]
  obtain ⟨av, xs, am⟩ := a
  obtain ⟨bv, ys, bm⟩ := b
  simp only [Rc.p] at *
  clear hav hbv ha hb Hq
  have HB0 : Hid (Below w.heap.size w ((w.alloc (.cells #[.slice aa xs.length ac, .int .i64 am] 76)).alloc (.cells #[.slice ba ys.length bcp, .int .i64 bm] 76))) := ((Below.refl _ _).alloc (Nat.le_refl _) _).alloc (by simp) _
  by_cases hm : am = bm
  · by_cases hl : xs.length = ys.length
    · have hm' : (am != bm) = false := by simpa using hm
      have HL : Hid (xs.length = ys.length) := hl
      have hl' : ((xs.length : Int) != (ys.length : Int)) = false := by simp; omega
      have HQ2 : Hid (q = decide (xs.map Fa.p = ys.map Fa.p)) := by unfold Hid; rw [HQ.out, Bool.eq_iff_iff]; simp [hm]
      clear hl hm HQ
      go_enter Tryz.func33, Tryz.ntmps33
      go_wp2_with fail
      go_loopw [5] (fun i wr => ∃ k : Nat, k ≤ xs.length ∧ i = .int .i64 (k : Int) ∧ Hid (∀ j (h1 : j < xs.length) (h2 : j < ys.length), j < k → xs[j].p = ys[j].p) ∧ Hid (Below (w.heap.size + 2) ((w.alloc (.cells #[.slice aa xs.length ac, .int .i64 am] 76)).alloc (.cells #[.slice ba ys.length bcp, .int .i64 bm] 76)) wr)) (fun i _ => xs.length - (intOf i).toNat)
      case atStart => exact ⟨0, by omega, rfl, fun j _ _ h => absurd h (by omega), Below.refl _ _⟩
      case round =>
        obtain ⟨k, hk, rfl, HP, HB⟩ := hrel
        have c0 := HB.out.cell (p := ⟨w.heap.size, 0, none⟩) (by simp)
        have c1 := HB.out.cell (p := ⟨w.heap.size + 1, 0, none⟩) (by simp)
        simp [go_sem] at c0 c1
        have hsz := HB.out.size
        simp at hsz
        have HBw : Hid (Below w.heap.size w wr) := HB0.out.trans (HB.out.mono (by omega))
        by_cases hlt : k < xs.length
        · have hlt2 : k < ys.length := by have := HL.out; omega
          obtain ⟨b1, o1, rfl, hb1'⟩ := HFa.out.ptr (by omega)
          obtain ⟨b2, o2, rfl, hb2'⟩ := HFb.out.ptr (by omega)
          obtain ⟨f, Hf⟩ := hid_ex xs[k]
          obtain ⟨g, Hg⟩ := hid_ex ys[k]
          obtain ⟨d0, d1, d2, hfr⟩ := (HFa.out.below HBw.out).three hlt f Hf.out
          obtain ⟨e0, e1, e2, hgr⟩ := (HFb.out.below HBw.out).three hlt2 g Hg.out
          obtain ⟨fa, fcp, hfv, _⟩ := hfr.r.form
          obtain ⟨ga, gcp, hgv, _⟩ := hgr.r.form
          rw [hfv] at d0
          rw [hgv] at e0
          have HR1 : Hid (SReads wr (.slice fa f.D.length fcp) f.D) := by rw [← hfv]; exact hfr.r
          have HR2 : Hid (SReads wr (.slice ga g.D.length gcp) g.D) := by rw [← hgv]; exact hgr.r
          clear hfr hgr hfv hgv
          have hbr1 : b1 < wr.heap.size := by omega
          have hbr2 : b2 < wr.heap.size := by omega
          go_wp2_with fail
          refine wp_region_noPanic ?_
          refine wp_region_held_drew (S := (fun w' => Below wr.heap.size wr w')) (by kernel_rfl) ?_ (fun hHeld => ?_)
          · exact (Below.refl _ _).drew
          refine wpAnyH_take (i := 0) (v := .pointer (some ⟨w.heap.size, 0, none⟩)) rfl (by kernel_rfl) (by kernel_rfl) (by kernel_rfl) (fun _ _ _ h => h) (Or.inl ⟨by rfl, ?_⟩) (by assumption) ?_
          · (intro w1 hSw; (try dsimp only at hSw); go_simp)
          simp only [List.getElem_toArray, List.getElem_cons_zero, Act.put, List.setIfInBounds_toArray, List.set_cons_zero, List.set_cons_succ]
          refine wpAnyH_take (i := 1) (v := .slice (some ⟨b1, o1, none⟩) xs.length ac) rfl (by kernel_rfl) (by kernel_rfl) (by kernel_rfl) (fun _ _ _ h => h) (Or.inl ⟨by rfl, ?_⟩) (by assumption) ?_
          · (intro w1 hSw; (try dsimp only at hSw); have q0 := (hSw.cell (p := ⟨w.heap.size, 0, none⟩) (by show w.heap.size < _; omega)).trans c0; go_simp)
          simp only [List.getElem_toArray, List.getElem_cons_succ, List.getElem_cons_zero, Act.put, List.setIfInBounds_toArray, List.set_cons_zero, List.set_cons_succ]
          refine wpAnyH_take (i := 2) (v := .int .i64 (k : Int)) rfl (by kernel_rfl) (by kernel_rfl) (by kernel_rfl) (fun _ _ _ h => h) (Or.inl ⟨by rfl, ?_⟩) (by assumption) ?_
          · (intro w1 hSw; (try dsimp only at hSw); go_simp)
          simp only [List.getElem_toArray, List.getElem_cons_succ, List.getElem_cons_zero, Act.put, List.setIfInBounds_toArray, List.set_cons_zero, List.set_cons_succ]
          refine wpAnyH_take (i := 3) (v := .pointer (some ⟨b1, o1 + k * 3, none⟩)) rfl (by kernel_rfl) (by kernel_rfl) (by kernel_rfl) (fun _ _ _ h => h) (Or.inl ⟨by rfl, ?_⟩) (by assumption) ?_
          · (intro w1 hSw; (try dsimp only at hSw); go_simp)
          simp only [List.getElem_toArray, List.getElem_cons_succ, List.getElem_cons_zero, Act.put, List.setIfInBounds_toArray, List.set_cons_zero, List.set_cons_succ]
          refine wpAnyH_take (i := 4) (v := .agg #[.slice fa f.D.length fcp, .int .i64 f.t, .int .i64 f.x]) rfl (by kernel_rfl) (by kernel_rfl) (by kernel_rfl) (fun _ _ _ h => h) (Or.inl ⟨by rfl, ?_⟩) (by assumption) ?_
          · (intro w1 hSw; (try dsimp only at hSw); have q0 := (hSw.cell (p := ⟨b1, o1 + k * 3, none⟩) hbr1).trans d0; have q1 := (hSw.cell (p := ⟨b1, o1 + k * 3 + 1, none⟩) hbr1).trans d1; have q2 := (hSw.cell (p := ⟨b1, o1 + k * 3 + 2, none⟩) hbr1).trans d2; go_simp)
          simp only [List.getElem_toArray, List.getElem_cons_succ, List.getElem_cons_zero, Act.put, List.setIfInBounds_toArray, List.set_cons_zero, List.set_cons_succ]
          refine wpAnyH_take (i := 5) (v := .pointer (some ⟨w.heap.size + 1, 0, none⟩)) rfl (by kernel_rfl) (by kernel_rfl) (by kernel_rfl) (fun _ _ _ h => h) (Or.inl ⟨by rfl, ?_⟩) (by assumption) ?_
          · (intro w1 hSw; (try dsimp only at hSw); go_simp)
          simp only [List.getElem_toArray, List.getElem_cons_succ, List.getElem_cons_zero, Act.put, List.setIfInBounds_toArray, List.set_cons_zero, List.set_cons_succ]
          refine wpAnyH_take (i := 6) (v := .slice (some ⟨b2, o2, none⟩) ys.length bcp) rfl (by kernel_rfl) (by kernel_rfl) (by kernel_rfl) (fun _ _ _ h => h) (Or.inl ⟨by rfl, ?_⟩) (by assumption) ?_
          · (intro w1 hSw; (try dsimp only at hSw); have q0 := (hSw.cell (p := ⟨w.heap.size + 1, 0, none⟩) (by show w.heap.size + 1 < _; omega)).trans c1; go_simp)
          simp only [List.getElem_toArray, List.getElem_cons_succ, List.getElem_cons_zero, Act.put, List.setIfInBounds_toArray, List.set_cons_zero, List.set_cons_succ]
          refine wpAnyH_take (i := 7) (v := .int .i64 (k : Int)) rfl (by kernel_rfl) (by kernel_rfl) (by kernel_rfl) (fun _ _ _ h => h) (Or.inl ⟨by rfl, ?_⟩) (by assumption) ?_
          · (intro w1 hSw; (try dsimp only at hSw); go_simp)
          simp only [List.getElem_toArray, List.getElem_cons_succ, List.getElem_cons_zero, Act.put, List.setIfInBounds_toArray, List.set_cons_zero, List.set_cons_succ]
          refine wpAnyH_take (i := 8) (v := .pointer (some ⟨b2, o2 + k * 3, none⟩)) rfl (by kernel_rfl) (by kernel_rfl) (by kernel_rfl) (fun _ _ _ h => h) (Or.inl ⟨by rfl, ?_⟩) (by assumption) ?_
          · (intro w1 hSw; (try dsimp only at hSw); go_simp)
          simp only [List.getElem_toArray, List.getElem_cons_succ, List.getElem_cons_zero, Act.put, List.setIfInBounds_toArray, List.set_cons_zero, List.set_cons_succ]
          refine wpAnyH_take (i := 9) (v := .agg #[.slice ga g.D.length gcp, .int .i64 g.t, .int .i64 g.x]) rfl (by kernel_rfl) (by kernel_rfl) (by kernel_rfl) (fun _ _ _ h => h) (Or.inl ⟨by rfl, ?_⟩) (by assumption) ?_
          · (intro w1 hSw; (try dsimp only at hSw); have q0 := (hSw.cell (p := ⟨b2, o2 + k * 3, none⟩) hbr2).trans e0; have q1 := (hSw.cell (p := ⟨b2, o2 + k * 3 + 1, none⟩) hbr2).trans e1; have q2 := (hSw.cell (p := ⟨b2, o2 + k * 3 + 2, none⟩) hbr2).trans e2; go_simp)
          simp only [List.getElem_toArray, List.getElem_cons_succ, List.getElem_cons_zero, Act.put, List.setIfInBounds_toArray, List.set_cons_zero, List.set_cons_succ]
          clear d0 d1 d2 e0 e1 e2
          refine wpAnyH_ready (rs := [10, 11]) (by kernel_rfl) (by simp) ?_
          refine AllReadyH.cons (o := _) rfl (fun K hK => ?_) (AllReadyH.cons (o := _) rfl (fun K hK => ?_) AllReadyH.nil)
          · go_simp
            obtain ⟨W1, HW1⟩ := hid_ex (wr.alloc (.cells #[.slice none 0 0, .int .i64 0, .int .i64 0] 60)).drew
            rw [← HW1.out]
            have HB1 : Hid (Below wr.heap.size wr W1) := by rw [HW1.out]; exact ((Below.refl _ _).alloc (Nat.le_refl _) _).drew
            have HX1 : Hid (W1.heap[wr.heap.size]? = some (.cells #[.slice none 0 0, .int .i64 0, .int .i64 0] 60)) := by rw [HW1.out]; exact World.alloc_heap_new wr _
            have hs1 : W1.heap.size = wr.heap.size + 1 := by rw [HW1.out]; exact World.size_alloc _ _
            clear HW1
            refine hK.out _ _ ?_ (fun hHeld => ?_)
            · exact HB1.out
            clear hK K
            refine wpAnyH_ready (rs := [11]) (by kernel_rfl) (by simp) ?_
            refine AllReadyH.cons (o := _) rfl (fun K hK => ?_) AllReadyH.nil
            go_simp
            obtain ⟨W2, HW2⟩ := hid_ex (W1.alloc (.cells #[.slice none 0 0, .int .i64 0, .int .i64 0] 60))
            rw [← HW2.out]
            have HB2 : Hid (Below wr.heap.size wr W2) := by rw [HW2.out]; exact HB1.out.alloc HB1.out.size _
            have HX2 : Hid (W2.heap[wr.heap.size]? = some (.cells #[.slice none 0 0, .int .i64 0, .int .i64 0] 60)) := by rw [HW2.out]; exact (Below.heap_alloc _ _ _ (by omega)).trans HX1.out
            have HY2 : Hid (W2.heap[W1.heap.size]? = some (.cells #[.slice none 0 0, .int .i64 0, .int .i64 0] 60)) := by rw [HW2.out]; exact World.alloc_heap_new W1 _
            clear HW2 HX1
            refine hK.out _ _ ?_ (fun hHeld => ?_)
            · exact HB2.out
            clear hK K
            rw [hs1] at HY2
            have hpq : wr.heap.size ≠ (wr.heap.size + 1) := by omega
            have hpl : wr.heap.size ≤ wr.heap.size := by omega
            have hql : wr.heap.size ≤ (wr.heap.size + 1) := by omega
            have HP2 : Hid (W2.heap[wr.heap.size]? = some (.cells #[.slice none 0 0, .int .i64 0, .int .i64 0] 60)) := HX2.out
            have HQ3 : Hid (W2.heap[(wr.heap.size + 1)]? = some (.cells #[.slice none 0 0, .int .i64 0, .int .i64 0] 60)) := HY2.out
            clear HX2 HY2 hs1
            refine wpAnyH_ready (rs := [12]) (by kernel_rfl) (by simp) ?_
            refine AllReadyH.cons (o := _) rfl (fun K hK => ?_) AllReadyH.nil
            refine wp_storeN _ _ _ rfl wr.heap.size 0 [.slice fa f.D.length fcp, .int .i64 f.t, .int .i64 f.x] rfl rfl _ _ HP2.out (by simp) (by kernel_rfl) (by kernel_rfl) ?_
            intro W3 hW3
            have HB3 : Hid (Below wr.heap.size wr W3) := HB2.out.trans (hW3.b _ hpl)
            have HP3 : Hid (W3.heap[wr.heap.size]? = some (.cells #[.slice fa f.D.length fcp, .int .i64 f.t, .int .i64 f.x] 60)) := st3 hW3
            have HQ4 : Hid (W3.heap[(wr.heap.size + 1)]? = some (.cells #[.slice none 0 0, .int .i64 0, .int .i64 0] 60)) := (hW3.o (wr.heap.size + 1) (Ne.symm hpq)).trans HQ3.out
            clear hW3 HQ3
            go_simp
            refine hK.out _ _ ?_ (fun hHeld => ?_)
            · exact HB3.out
            clear hK K
            refine wpAnyH_ready (rs := [13]) (by kernel_rfl) (by simp) ?_
            refine AllReadyH.cons (o := _) rfl (fun K hK => ?_) AllReadyH.nil
            refine wp_storeN _ _ _ rfl (wr.heap.size + 1) 0 [.slice ga g.D.length gcp, .int .i64 g.t, .int .i64 g.x] rfl rfl _ _ HQ4.out (by simp) (by kernel_rfl) (by kernel_rfl) ?_
            intro W4 hW4
            have HB4 : Hid (Below wr.heap.size wr W4) := HB3.out.trans (hW4.b _ hql)
            have HQ5 : Hid (W4.heap[(wr.heap.size + 1)]? = some (.cells #[.slice ga g.D.length gcp, .int .i64 g.t, .int .i64 g.x] 60)) := st3 hW4
            have HP5 : Hid (W4.heap[wr.heap.size]? = some (.cells #[.slice fa f.D.length fcp, .int .i64 f.t, .int .i64 f.x] 60)) := (hW4.o wr.heap.size hpq).trans HP3.out
            clear hW4 HQ4 HP3
            go_simp
            refine hK.out _ _ ?_ (fun hHeld => ?_)
            · exact HB4.out
            clear hK K
            refine wpAnyH_done (by kernel_rfl) ?_ _
            refine NoPanic.normal ?_
            have HNo : Hid (¬ f.p = g.p → q = false) := fun h => by rw [HQ2.out]; exact decide_eq_false (fun h2 => h (by rw [Hf.out, Hg.out]; exact map_at h2 hlt hlt2))
            have z0 := cellW HP5.out 0 (by simp)
            have y0 := cellW HQ5.out 0 (by simp)
            simp only [List.getElem_toArray, List.getElem_cons_zero] at z0 y0
            go_wp2_with fail
            refine (order_any _ _ f.D g.D _ (HR1.out.below HB4.out) (HR2.out.below HB4.out)).mono ?_
            rintro e W5 ⟨rfl, hb5⟩
            have hl4 := HB4.out.size
            have HB5 : Hid (Below (w.heap.size + 2) ((w.alloc (.cells #[.slice (some ⟨b1, o1, none⟩) xs.length ac, .int .i64 am] 76)).alloc (.cells #[.slice (some ⟨b2, o2, none⟩) ys.length bcp, .int .i64 bm] 76)) W5) := (HB.out.trans (HB4.out.mono (by omega))).trans (hb5.mono (by omega))
            have HP6 : Hid (W5.heap[wr.heap.size]? = some (.cells #[.slice fa f.D.length fcp, .int .i64 f.t, .int .i64 f.x] 60)) := (hb5.block _ (Array.getElem?_eq_some_iff.1 HP5.out).1).trans HP5.out
            have HQ6 : Hid (W5.heap[(wr.heap.size + 1)]? = some (.cells #[.slice ga g.D.length gcp, .int .i64 g.t, .int .i64 g.x] 60)) := (hb5.block _ (Array.getElem?_eq_some_iff.1 HQ5.out).1).trans HQ5.out
            have HBE : Hid (Below w.heap.size w W5) := HB0.out.trans (HB5.out.mono (by omega))
            clear hb5 z0 y0 HP5 HQ5 HB4 hl4
            have z1 := cellW HP6.out 1 (by simp)
            have z2 := cellW HP6.out 2 (by simp)
            have y1 := cellW HQ6.out 1 (by simp)
            have y2 := cellW HQ6.out 2 (by simp)
            simp only [List.getElem_toArray, List.getElem_cons_succ, List.getElem_cons_zero] at z1 z2 y1 y2
            obtain ⟨c, Hc⟩ := hid_ex (cmpL f.D g.D)
            rw [← Hc.out]
            by_cases hc : c = 0
            · have hc' : (c != 0) = false := by simpa using hc
              have HD : Hid (f.D = g.D) := (cmpL_zero _ _).1 (Hc.out.symm.trans hc)
              clear hc Hc
              by_cases ht : f.t = g.t
              · have ht' : (f.t != g.t) = false := by simpa using ht
                have HT : Hid (f.t = g.t) := ht
                clear ht
                by_cases hx : f.x = g.x
                · have hx' : (f.x != g.x) = false := by simpa using hx
                  have HN : Hid (∀ j (h1 : j < xs.length) (h2 : j < ys.length), j < k + 1 → xs[j].p = ys[j].p) := by
                    intro j h1 h2 hj
                    rcases Nat.lt_or_ge j k with h9 | h9
                    · exact HP.out j h1 h2 h9
                    · obtain rfl : j = k := by omega
                      rw [← Hf.out, ← Hg.out]
                      exact p_eq.2 ⟨HD.out, HT.out, hx⟩
                  clear hx
                  go_wp2_with fail
                  go_roundw
                  case rel => exact ⟨k + 1, by omega, by go_num, HN, HB5⟩
                  case measure => simp [intOf]; omega
                · have hx' : (f.x != g.x) = true := by simpa using hx
                  have HF : Hid (q = false) := HNo.out (fun h => hx (p_eq.1 h).2.2)
                  clear hx
                  go_wp2_with fail
                  go_ret
                  exact ⟨by rw [HF.out]; rfl, HBE.out⟩
              · have ht' : (f.t != g.t) = true := by simpa using ht
                have HF : Hid (q = false) := HNo.out (fun h => ht (p_eq.1 h).2.1)
                clear ht
                go_wp2_with fail
                go_ret
                exact ⟨by rw [HF.out]; rfl, HBE.out⟩
            · have hc' : (c != 0) = true := by simpa using hc
              have HF : Hid (q = false) := HNo.out (fun h => hc (Hc.out.trans ((cmpL_zero _ _).2 (p_eq.1 h).1)))
              clear hc
              go_wp2_with fail
              go_ret
              exact ⟨by rw [HF.out]; rfl, HBE.out⟩
          · go_simp
            obtain ⟨W1, HW1⟩ := hid_ex (wr.alloc (.cells #[.slice none 0 0, .int .i64 0, .int .i64 0] 60)).drew
            rw [← HW1.out]
            have HB1 : Hid (Below wr.heap.size wr W1) := by rw [HW1.out]; exact ((Below.refl _ _).alloc (Nat.le_refl _) _).drew
            have HX1 : Hid (W1.heap[wr.heap.size]? = some (.cells #[.slice none 0 0, .int .i64 0, .int .i64 0] 60)) := by rw [HW1.out]; exact World.alloc_heap_new wr _
            have hs1 : W1.heap.size = wr.heap.size + 1 := by rw [HW1.out]; exact World.size_alloc _ _
            clear HW1
            refine hK.out _ _ ?_ (fun hHeld => ?_)
            · exact HB1.out
            clear hK K
            refine wpAnyH_ready (rs := [10]) (by kernel_rfl) (by simp) ?_
            refine AllReadyH.cons (o := _) rfl (fun K hK => ?_) AllReadyH.nil
            go_simp
            obtain ⟨W2, HW2⟩ := hid_ex (W1.alloc (.cells #[.slice none 0 0, .int .i64 0, .int .i64 0] 60))
            rw [← HW2.out]
            have HB2 : Hid (Below wr.heap.size wr W2) := by rw [HW2.out]; exact HB1.out.alloc HB1.out.size _
            have HX2 : Hid (W2.heap[wr.heap.size]? = some (.cells #[.slice none 0 0, .int .i64 0, .int .i64 0] 60)) := by rw [HW2.out]; exact (Below.heap_alloc _ _ _ (by omega)).trans HX1.out
            have HY2 : Hid (W2.heap[W1.heap.size]? = some (.cells #[.slice none 0 0, .int .i64 0, .int .i64 0] 60)) := by rw [HW2.out]; exact World.alloc_heap_new W1 _
            clear HW2 HX1
            refine hK.out _ _ ?_ (fun hHeld => ?_)
            · exact HB2.out
            clear hK K
            rw [hs1] at HY2
            have hpq : (wr.heap.size + 1) ≠ wr.heap.size := by omega
            have hpl : wr.heap.size ≤ (wr.heap.size + 1) := by omega
            have hql : wr.heap.size ≤ wr.heap.size := by omega
            have HP2 : Hid (W2.heap[(wr.heap.size + 1)]? = some (.cells #[.slice none 0 0, .int .i64 0, .int .i64 0] 60)) := HY2.out
            have HQ3 : Hid (W2.heap[wr.heap.size]? = some (.cells #[.slice none 0 0, .int .i64 0, .int .i64 0] 60)) := HX2.out
            clear HX2 HY2 hs1
            refine wpAnyH_ready (rs := [12]) (by kernel_rfl) (by simp) ?_
            refine AllReadyH.cons (o := _) rfl (fun K hK => ?_) AllReadyH.nil
            refine wp_storeN _ _ _ rfl (wr.heap.size + 1) 0 [.slice fa f.D.length fcp, .int .i64 f.t, .int .i64 f.x] rfl rfl _ _ HP2.out (by simp) (by kernel_rfl) (by kernel_rfl) ?_
            intro W3 hW3
            have HB3 : Hid (Below wr.heap.size wr W3) := HB2.out.trans (hW3.b _ hpl)
            have HP3 : Hid (W3.heap[(wr.heap.size + 1)]? = some (.cells #[.slice fa f.D.length fcp, .int .i64 f.t, .int .i64 f.x] 60)) := st3 hW3
            have HQ4 : Hid (W3.heap[wr.heap.size]? = some (.cells #[.slice none 0 0, .int .i64 0, .int .i64 0] 60)) := (hW3.o wr.heap.size (Ne.symm hpq)).trans HQ3.out
            clear hW3 HQ3
            go_simp
            refine hK.out _ _ ?_ (fun hHeld => ?_)
            · exact HB3.out
            clear hK K
            refine wpAnyH_ready (rs := [13]) (by kernel_rfl) (by simp) ?_
            refine AllReadyH.cons (o := _) rfl (fun K hK => ?_) AllReadyH.nil
            refine wp_storeN _ _ _ rfl wr.heap.size 0 [.slice ga g.D.length gcp, .int .i64 g.t, .int .i64 g.x] rfl rfl _ _ HQ4.out (by simp) (by kernel_rfl) (by kernel_rfl) ?_
            intro W4 hW4
            have HB4 : Hid (Below wr.heap.size wr W4) := HB3.out.trans (hW4.b _ hql)
            have HQ5 : Hid (W4.heap[wr.heap.size]? = some (.cells #[.slice ga g.D.length gcp, .int .i64 g.t, .int .i64 g.x] 60)) := st3 hW4
            have HP5 : Hid (W4.heap[(wr.heap.size + 1)]? = some (.cells #[.slice fa f.D.length fcp, .int .i64 f.t, .int .i64 f.x] 60)) := (hW4.o (wr.heap.size + 1) hpq).trans HP3.out
            clear hW4 HQ4 HP3
            go_simp
            refine hK.out _ _ ?_ (fun hHeld => ?_)
            · exact HB4.out
            clear hK K
            refine wpAnyH_done (by kernel_rfl) ?_ _
            refine NoPanic.normal ?_
            have HNo : Hid (¬ f.p = g.p → q = false) := fun h => by rw [HQ2.out]; exact decide_eq_false (fun h2 => h (by rw [Hf.out, Hg.out]; exact map_at h2 hlt hlt2))
            have z0 := cellW HP5.out 0 (by simp)
            have y0 := cellW HQ5.out 0 (by simp)
            simp only [List.getElem_toArray, List.getElem_cons_zero] at z0 y0
            go_wp2_with fail
            refine (order_any _ _ f.D g.D _ (HR1.out.below HB4.out) (HR2.out.below HB4.out)).mono ?_
            rintro e W5 ⟨rfl, hb5⟩
            have hl4 := HB4.out.size
            have HB5 : Hid (Below (w.heap.size + 2) ((w.alloc (.cells #[.slice (some ⟨b1, o1, none⟩) xs.length ac, .int .i64 am] 76)).alloc (.cells #[.slice (some ⟨b2, o2, none⟩) ys.length bcp, .int .i64 bm] 76)) W5) := (HB.out.trans (HB4.out.mono (by omega))).trans (hb5.mono (by omega))
            have HP6 : Hid (W5.heap[(wr.heap.size + 1)]? = some (.cells #[.slice fa f.D.length fcp, .int .i64 f.t, .int .i64 f.x] 60)) := (hb5.block _ (Array.getElem?_eq_some_iff.1 HP5.out).1).trans HP5.out
            have HQ6 : Hid (W5.heap[wr.heap.size]? = some (.cells #[.slice ga g.D.length gcp, .int .i64 g.t, .int .i64 g.x] 60)) := (hb5.block _ (Array.getElem?_eq_some_iff.1 HQ5.out).1).trans HQ5.out
            have HBE : Hid (Below w.heap.size w W5) := HB0.out.trans (HB5.out.mono (by omega))
            clear hb5 z0 y0 HP5 HQ5 HB4 hl4
            have z1 := cellW HP6.out 1 (by simp)
            have z2 := cellW HP6.out 2 (by simp)
            have y1 := cellW HQ6.out 1 (by simp)
            have y2 := cellW HQ6.out 2 (by simp)
            simp only [List.getElem_toArray, List.getElem_cons_succ, List.getElem_cons_zero] at z1 z2 y1 y2
            obtain ⟨c, Hc⟩ := hid_ex (cmpL f.D g.D)
            rw [← Hc.out]
            by_cases hc : c = 0
            · have hc' : (c != 0) = false := by simpa using hc
              have HD : Hid (f.D = g.D) := (cmpL_zero _ _).1 (Hc.out.symm.trans hc)
              clear hc Hc
              by_cases ht : f.t = g.t
              · have ht' : (f.t != g.t) = false := by simpa using ht
                have HT : Hid (f.t = g.t) := ht
                clear ht
                by_cases hx : f.x = g.x
                · have hx' : (f.x != g.x) = false := by simpa using hx
                  have HN : Hid (∀ j (h1 : j < xs.length) (h2 : j < ys.length), j < k + 1 → xs[j].p = ys[j].p) := by
                    intro j h1 h2 hj
                    rcases Nat.lt_or_ge j k with h9 | h9
                    · exact HP.out j h1 h2 h9
                    · obtain rfl : j = k := by omega
                      rw [← Hf.out, ← Hg.out]
                      exact p_eq.2 ⟨HD.out, HT.out, hx⟩
                  clear hx
                  go_wp2_with fail
                  go_roundw
                  case rel => exact ⟨k + 1, by omega, by go_num, HN, HB5⟩
                  case measure => simp [intOf]; omega
                · have hx' : (f.x != g.x) = true := by simpa using hx
                  have HF : Hid (q = false) := HNo.out (fun h => hx (p_eq.1 h).2.2)
                  clear hx
                  go_wp2_with fail
                  go_ret
                  exact ⟨by rw [HF.out]; rfl, HBE.out⟩
              · have ht' : (f.t != g.t) = true := by simpa using ht
                have HF : Hid (q = false) := HNo.out (fun h => ht (p_eq.1 h).2.1)
                clear ht
                go_wp2_with fail
                go_ret
                exact ⟨by rw [HF.out]; rfl, HBE.out⟩
            · have hc' : (c != 0) = true := by simpa using hc
              have HF : Hid (q = false) := HNo.out (fun h => hc (Hc.out.trans ((cmpL_zero _ _).2 (p_eq.1 h).1)))
              clear hc
              go_wp2_with fail
              go_ret
              exact ⟨by rw [HF.out]; rfl, HBE.out⟩
        · have HF : Hid (q = true) := by
            unfold Hid
            rw [HQ2.out, decide_eq_true_iff]
            apply List.ext_getElem
            · simpa using HL.out
            · intro j h1 h2
              simp at h1 h2
              simp only [List.getElem_map]
              exact HP.out j h1 h2 (by omega)
          go_wp2_with fail
          go_ret
          exact ⟨by rw [HF.out]; rfl, HBw.out⟩
    · have hm' : (am != bm) = false := by simpa using hm
      have hl' : ((xs.length : Int) != (ys.length : Int)) = true := by simp; omega
      have HF : Hid (q = false) := by
        unfold Hid
        rw [HQ.out]
        refine decide_eq_false ?_
        rintro ⟨_, h2⟩
        exact hl (by simpa using congrArg List.length h2)
      clear HQ hm hl
      go_enter Tryz.func33, Tryz.ntmps33
      go_wp2_with fail
      go_ret
      exact ⟨by rw [HF.out]; rfl, HB0.out⟩
  · have hm' : (am != bm) = true := by simpa using hm
    have HF : Hid (q = false) := by
      unfold Hid
      rw [HQ.out]
      exact decide_eq_false (fun h => hm h.1)
    clear HQ hm
    go_enter Tryz.func33, Tryz.ntmps33
    go_wp2_with fail
    go_ret
    exact ⟨by rw [HF.out]; rfl, HB0.out⟩
end Go.Proofs.YtegcomopcoapjaaGreatDoor
