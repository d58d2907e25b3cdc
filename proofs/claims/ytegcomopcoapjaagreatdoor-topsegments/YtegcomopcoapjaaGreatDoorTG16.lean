/- WC2, joined. -/
import Derived.Test.YtegcomopcoapjaaGreatDoorTG1
import Derived.Test.YtegcomopcoapjaaGreatDoorTG3
import Derived.Test.YtegcomopcoapjaaGreatDoorTG5
import Derived.RangeFuncRecord
/- wal: a record's bytes are written. -/
namespace Go.Proofs.YtegcomopcoapjaaGreatDoor
open Go.RowKit Go.Shelf

theorem own_one (w : World) (x : UInt8) (base : Nat) (hb : base ≤ w.heap.size) : Own (w.alloc (.cells #[bc x] 5)) base (.slice (some ⟨w.heap.size, 0, none⟩) 1 1) [x] :=
  ⟨rfl, .inr ⟨w.heap.size, 1, #[bc x], rfl, hb, World.alloc_heap_new _ _, Nat.le_refl _, by unfold maxLen; decide, rfl, rfl⟩⟩
theorem wrD_snoc (D : List ByteArray) (k : Nat) (h : k < D.length) : wrD (D.take (k + 1)) = wrD (D.take k) ++ tx D[k].data.toList := by
  unfold wrD; rw [List.take_succ_eq_append_getElem h, List.flatMap_append]; simp
set_option maxRecDepth 100000 in
set_option maxHeartbeats 1000000 in
theorem written_any (f : Fa) (hm : mayP f.p = true) (w : World) (h : FaR w f) : Calls Tryz.prog 44 #[f.val] w fun e w' => ∃ v, e = .returned v ∧ Own w' w.heap.size v (wrF f.p) ∧ Below w.heap.size w w' := by
  obtain ⟨v, D, t, x⟩ := f
  obtain ⟨hr, ⟨t1, t2, x1, x2⟩⟩ := h
  have hmm := hm
  unfold mayP at hmm
  rw [Bool.and_eq_true] at hmm
  have hM4 := mayB_iff.1 hmm.1
  simp only [Fa.p] at hr t1 t2 x1 x2 hM4
  obtain ⟨h4, h16⟩ := hM4
  obtain ⟨a, cap, rfl, _⟩ := hr.form
  have HS : Hid (∀ s ∈ D, s.size ≤ 16) := h16
  have HR0 : Hid (SReads w (.slice a D.length cap) D) := hr
  obtain ⟨F, HF⟩ := hid_ex (wrF (Fa.p ⟨.slice a D.length cap, D, t, x⟩))
  have HF2 : Hid (F = sh D.length ++ (wrD D ++ (nb t ++ nb x))) := HF.out
  rw [← HF.out]
  unfold Fa.val
  simp only
  clear hm hmm h16 hr HF
  go_enter Tryz.func44, Tryz.ntmps44
  go_wp2_with fail
  refine (short_any D.length (by omega) _).mono ?_
  rintro e w1 ⟨vs, rfl, ho1, hb1⟩
  have c0 := hb1.cell (p := ⟨w.heap.size, 0, none⟩) (by simp)
  have c1 := hb1.cell (p := ⟨w.heap.size, 1, none⟩) (by simp)
  have c2 := hb1.cell (p := ⟨w.heap.size, 2, none⟩) (by simp)
  simp [go_sem] at c0 c1 c2
  have hz1 : w.heap.size + 1 ≤ w1.heap.size := by have := hb1.size; simpa using this
  have HB1 : Hid (Below w.heap.size w w1) := ((Below.refl _ w).alloc (Nat.le_refl _) _).trans (hb1.mono (by simp))
  have HR1 : Hid (SReads w1 (.slice a D.length cap) D) := HR0.out.below HB1.out
  have HO1 : Own w1 (w.heap.size + 1) vs (sh D.length) := own_mono ho1 (by simp)
  have HLt : Hid (∀ b off, a = some ⟨b, off, none⟩ → 0 < D.length → b < w.heap.size) := by
    intro b off e h0
    obtain ⟨b', off', e', hb', _⟩ := HR0.out.at 0 h0
    rw [e] at e'
    cases e'
    exact hb'
  have hs10 := sh_len10 (n := D.length) (by omega)
  have C1 : Hid (w1.cell? ⟨w.heap.size, 1, none⟩ = some (.int .i64 t)) := c1
  have C2 : Hid (w1.cell? ⟨w.heap.size, 2, none⟩ = some (.int .i64 x)) := c2
  clear ho1 hb1 c1 c2 HR0
  go_wp2_with fail
  go_loopw [3, 14] (fun u i wr => ∃ (k : Nat) (M : List UInt8), k ≤ D.length ∧ i = .int .i64 (k : Int) ∧ Hid (M = sh D.length ++ wrD (D.take k)) ∧ Own wr (w.heap.size + 1) u M ∧ Hid (Below (w.heap.size + 1) w1 wr)) (fun _ i _ => D.length - (intOf i).toNat)
  case atStart => exact ⟨0, sh D.length, by omega, rfl, by simp [Hid, wrD], HO1, Below.refl _ _⟩
  case round =>
    obtain ⟨k, M, hk, rfl, HM, HR, HB⟩ := hrel
    have hsz := HB.out.size
    have hml : M.length ≤ 200 := by
      have h9 := wrD_len (D.take k) fun s hs => HS.out s (List.mem_of_mem_take hs)
      rw [HM.out, List.length_append]; simp at h9; omega
    by_cases hlt : k < D.length
    · obtain ⟨b, off, rfl, _, hcw⟩ := HR1.out.at k hlt
      have hbw := HLt.out b off rfl (by omega)
      have hcell := (HB.out.cell (p := ⟨b, off + k, none⟩) (by show b < _; omega)).trans hcw
      have hsk := HS.out _ (List.getElem_mem hlt)
      obtain ⟨M2, HM2⟩ := hid_ex (M ++ tx D[k].data.toList)
      have HE : Hid (M2 = sh D.length ++ wrD (D.take (k + 1))) := by
        rw [HM2.out, HM.out, wrD_snoc _ _ hlt, List.append_assoc]; rfl
      have htl : (tx D[k].data.toList).length ≤ 34 := by
        have := tx_len D[k].data.toList
        have h4 : D[k].data.toList.length = D[k].size := Array.length_toList
        omega
      clear hcw
      generalize D[k] = s at *
      have hss : s.size ≤ 10000 := by omega
      go_wp2_with fail
      refine (text_any s hss _).mono ?_
      rintro e w2 ⟨vt, rfl, hot, hb2⟩
      have HB2 : Hid (Below (w.heap.size + 1) w1 w2) := HB.out.trans (hb2.mono (by omega))
      have HR2 : Own w2 (w.heap.size + 1) _ M := HR.below hb2
      have hrt : Reads w2 vt (tx s.data.toList) := reads_own hot
      have hsz2 := HB2.out.size
      clear hb2 HR hot HB hsz hcell
      go_wp2_with (at_builtin; refine wpList_app rfl _ _ rfl (w.heap.size + 1) _ _ M (tx s.data.toList) M2 HM2.out rfl rfl HR2 hrt (by omega) (by omega) ?_)
      intro v3 w3 HR3 hb3
      have HB3 : Hid (Below (w.heap.size + 1) w1 w3) := HB2.out.trans hb3.out
      clear hb3 HR2 HB2 hsz2 hrt
      go_wp2_with fail
      go_roundw
      case rel => exact ⟨k + 1, M2, by omega, by go_num, HE, HR3, HB3⟩
      case measure => simp [intOf]; omega
    · have HM' : Hid (M = sh D.length ++ wrD D) := by unfold Hid; rw [HM.out, List.take_of_length_le (by omega)]
      have c1 := (HB.out.cell (p := ⟨w.heap.size, 1, none⟩) (by show w.heap.size < _; omega)).trans C1.out
      obtain ⟨M1, HM1⟩ := hid_ex (M ++ nb t)
      obtain ⟨M2, HM2⟩ := hid_ex (M1 ++ nb x)
      have HE : Hid (M2 = F) := by unfold Hid; rw [HM2.out, HM1.out, HM'.out, HF2.out]; simp
      have hm1 : M1.length = M.length + 8 := by rw [HM1.out, List.length_append, nb_len]
      have hnt := nb_len t
      have hnx := nb_len x
      clear HM HM' c0
      go_wp2_with fail
      refine (number_any t t1 t2 _).mono ?_
      rintro e w2 ⟨vt, rfl, hot, hb2⟩
      have HB2 : Hid (Below (w.heap.size + 1) w1 w2) := HB.out.trans (hb2.mono (by omega))
      have HR2 : Own w2 (w.heap.size + 1) _ M := HR.below hb2
      have hrt : Reads w2 vt (nb t) := reads_own hot
      have hsz2 := HB2.out.size
      clear hb2 HR hot HB hsz c1
      go_wp2_with (at_builtin; refine wpList_app rfl _ _ rfl (w.heap.size + 1) _ _ M (nb t) M1 HM1.out rfl rfl HR2 hrt (by omega) (by omega) ?_)
      intro v3 w3 HR3 hb3
      have HB3 : Hid (Below (w.heap.size + 1) w1 w3) := HB2.out.trans hb3.out
      have hsz3 := HB3.out.size
      have c2 := (HB3.out.cell (p := ⟨w.heap.size, 2, none⟩) (by show w.heap.size < _; omega)).trans C2.out
      clear hb3 HR2 HB2 hsz2 hrt
      go_wp2_with fail
      refine (number_any x x1 x2 _).mono ?_
      rintro e w4 ⟨vt4, rfl, hot4, hb4⟩
      have HB4 : Hid (Below (w.heap.size + 1) w1 w4) := HB3.out.trans (hb4.mono (by omega))
      have HR4 : Own w4 (w.heap.size + 1) v3 M1 := HR3.below hb4
      have hrt4 : Reads w4 vt4 (nb x) := reads_own hot4
      have hsz4 := HB4.out.size
      clear hb4 HR3 hot4 HB3 hsz3 c2
      go_wp2_with (at_builtin; refine wpList_app rfl _ _ rfl (w.heap.size + 1) _ _ M1 (nb x) M2 HM2.out rfl rfl HR4 hrt4 (by omega) (by omega) ?_)
      intro v5 w5 HR5 hb5
      have HB5 : Hid (Below (w.heap.size + 1) w1 w5) := HB4.out.trans hb5.out
      go_wp2_with fail
      go_ret
      exact ⟨_, rfl, by rw [← HE.out]; exact HR5.mono (by omega), HB1.out.trans (HB5.out.mono (by omega))⟩
/-- What Write answers. -/
def wrE (r : Rc) : Int := if rightR r.p r.m = true then 0 else 90
def wrB (r : Rc) : List UInt8 := if rightR r.p r.m = true then wrR r.p r.m else []
theorem p_len (r : Rc) : r.p.length = r.fs.length := by simp [Rc.p]
theorem flat_snoc (fs : List Fa) (k : Nat) (h : k < fs.length) : (fs.take (k + 1)).flatMap (fun f => wrF f.p) = (fs.take k).flatMap (fun f => wrF f.p) ++ wrF fs[k].p := by
  rw [List.take_succ_eq_append_getElem h, List.flatMap_append]; simp
theorem flat_map (fs : List Fa) : fs.flatMap (fun f => wrF f.p) = (fs.map Fa.p).flatMap wrF := by rw [List.flatMap_map]
set_option maxRecDepth 100000 in
set_option maxHeartbeats 2000000 in
theorem walWrite_any (r : Rc) (w : World) (h : RcOk w r) : Calls Tryz.prog 23 #[r.val] w fun e w' => ∃ v, e = .returned (.tuple #[v, .int .i64 (wrE r)]) ∧ Own w' w.heap.size v (wrB r) ∧ Below w.heap.size w w' := by
  obtain ⟨a, cap, hv, hl1, hl2⟩ := h.f.form
  unfold maxLen at hl2
  have HB0 : Hid (Below w.heap.size w (w.alloc (.cells #[.slice a r.fs.length cap, .int .i64 r.m] 37))) := (Below.refl _ _).alloc (Nat.le_refl _) _
  have HRt : Hid (Calls Tryz.prog 41 #[.agg #[.slice a r.fs.length cap, .int .i64 r.m]] (w.alloc (.cells #[.slice a r.fs.length cap, .int .i64 r.m] 37)) fun e w' => e = .returned (.bool (rightR r.p r.m)) ∧ Below (w.alloc (.cells #[.slice a r.fs.length cap, .int .i64 r.m] 37)).heap.size (w.alloc (.cells #[.slice a r.fs.length cap, .int .i64 r.m] 37)) w') := by
    have := walRight_any r _ (h.below HB0.out)
    unfold Rc.val at this
    rw [hv] at this
    exact this
  obtain ⟨q, Hq⟩ := hid_ex (rightR r.p r.m)
  have HE : Hid (wrE r = if q = true then 0 else 90) := by unfold Hid wrE; rw [Hq.out]
  have HW : Hid (wrB r = if q = true then wrR r.p r.m else []) := by unfold Hid wrB; rw [Hq.out]
  obtain ⟨E, HEE⟩ := hid_ex (wrE r)
  obtain ⟨B, HBB⟩ := hid_ex (wrB r)
  rw [← HEE.out] at HE ⊢
  rw [← HBB.out] at HW ⊢
  rw [← Hq.out] at HRt
  have HF : Hid (FReads w (.slice a r.fs.length cap) r.fs) := by rw [← hv]; exact h.f
  have hm1 := h.m1
  have hm2 := h.m2
  unfold Rc.val
  rw [hv]
  clear HEE HBB h
  go_enter Tryz.func23, Tryz.ntmps23
  go_wp2_with fail
  refine HRt.out.mono ?_
  rintro e w1 ⟨rfl, hb1⟩
  have c0 := hb1.cell (p := ⟨w.heap.size, 0, none⟩) (by simp)
  have c1 := hb1.cell (p := ⟨w.heap.size, 1, none⟩) (by simp)
  simp [go_sem] at c0 c1
  have hz1 : w.heap.size + 1 ≤ w1.heap.size := by have := hb1.size; simpa using this
  have HB1 : Hid (Below w.heap.size w w1) := HB0.out.trans (hb1.mono (by simp))
  clear hb1 HRt HB0
  cases q with
  | false =>
    simp only [if_neg (show ¬ (false = true) by decide)] at HE HW
    go_wp2_with fail
    go_ret2
    exact ⟨_, by rw [HE.out]; rfl, by rw [HW.out]; exact Own.nil _ _, HB1.out⟩
  | true =>
    simp only at HE HW
    have HAll : Hid (r.fs.length ≤ 16 ∧ ∀ f ∈ r.fs, mayP f.p = true) := by
      obtain ⟨z1, z2⟩ := rightR_all Hq.out.symm
      refine ⟨by rw [← p_len]; exact z1, fun f hf => ?_⟩
      exact List.all_eq_true.1 z2 _ (List.mem_map.2 ⟨f, hf, rfl⟩)
    have h16 := HAll.out.1
    by_cases h0 : r.fs.length = 0
    · have hp0 : r.p.length = 0 := by rw [p_len]; exact h0
      have HW2 : Hid (B = [2] ++ nb r.m) := by unfold Hid; rw [HW.out]; unfold wrR; rw [if_pos hp0]; rfl
      have hnm := nb_len r.m
      have c1' : (w1.alloc (.cells #[.int .u8 2] 5)).cell? ⟨w.heap.size, 1, none⟩ = some (.int .i64 r.m) := (((Below.refl w1.heap.size w1).alloc (Nat.le_refl _) _).cell (p := ⟨w.heap.size, 1, none⟩) (by show w.heap.size < _; omega)).trans c1
      clear hp0
      go_wp2_with fail
      refine (number_any r.m hm1 hm2 _).mono ?_
      rintro e w2 ⟨vt, rfl, hot, hb2⟩
      have hO0 : Own (w1.alloc (.cells #[.int .u8 2] 5)) w.heap.size (.slice (some ⟨w1.heap.size, 0, none⟩) 1 1) [2] := own_one w1 2 _ (by omega)
      have HO2 : Own w2 w.heap.size (.slice (some ⟨w1.heap.size, 0, none⟩) 1 1) [2] := hO0.below hb2
      have HB2 : Hid (Below w.heap.size w w2) := HB1.out.trans (((Below.refl _ w1).alloc (by omega) _).trans (hb2.mono (by simp; omega)))
      have hrt : Reads w2 vt (nb r.m) := reads_own hot
      have hsz2 := HB2.out.size
      clear hb2 hot hO0 c1'
      go_wp2_with (at_builtin; refine wpList_app rfl _ _ rfl w.heap.size _ _ [2] (nb r.m) B HW2.out rfl rfl HO2 hrt (by simp; omega) (by omega) ?_)
      intro v3 w3 HR3 hb3
      go_wp2_with fail
      go_ret2
      exact ⟨_, by rw [HE.out]; rfl, HR3, HB2.out.trans hb3.out⟩
    · have HW2 : Hid (B = 1 :: (sh r.fs.length ++ r.fs.flatMap fun f => wrF f.p)) := by
        have hp0 : ¬ r.p.length = 0 := by rw [p_len]; exact h0
        unfold Hid; rw [HW.out]; unfold wrR; rw [if_neg hp0, p_len, flat_map]; rfl
      have h0' : ¬ (r.fs.length : Int) = 0 := by omega
      have c0' : (w1.alloc (.cells #[.int .u8 1] 5)).cell? ⟨w.heap.size, 0, none⟩ = some (.slice a r.fs.length cap) := (((Below.refl w1.heap.size w1).alloc (Nat.le_refl _) _).cell (p := ⟨w.heap.size, 0, none⟩) (by show w.heap.size < _; omega)).trans c0
      clear HW
      obtain ⟨M0, HM0⟩ := hid_ex ([1] ++ sh r.fs.length)
      have hs10 := sh_len10 (n := r.fs.length) (by omega)
      have hm0 : M0.length ≤ 11 := by rw [HM0.out]; simp; omega
      have C0 : Hid (w1.cell? ⟨w.heap.size, 0, none⟩ = some (.slice a r.fs.length cap)) := c0
      clear c1
      go_wp2_with fail
      refine (short_any r.fs.length (by omega) _).mono ?_
      rintro e w2 ⟨vt, rfl, hot, hb2⟩
      have hO0 : Own (w1.alloc (.cells #[.int .u8 1] 5)) (w.heap.size + 1) (.slice (some ⟨w1.heap.size, 0, none⟩) 1 1) [1] := own_one w1 1 _ (by omega)
      have HO2 : Own w2 (w.heap.size + 1) (.slice (some ⟨w1.heap.size, 0, none⟩) 1 1) [1] := hO0.below hb2
      have HB2 : Hid (Below (w.heap.size + 1) w1 w2) := ((Below.refl _ w1).alloc (by omega) _).trans (hb2.mono (by simp; omega))
      have hrt : Reads w2 vt (sh r.fs.length) := reads_own hot
      have hsz2 := HB2.out.size
      clear hb2 hot hO0 c0 c0'
      go_wp2_with (at_builtin; refine wpList_app rfl _ _ rfl (w.heap.size + 1) _ _ [1] (sh r.fs.length) M0 HM0.out rfl rfl HO2 hrt (by simp; omega) (by omega) ?_)
      intro v3 w3 HR3 hb3
      have HB3 : Hid (Below (w.heap.size + 1) w1 w3) := HB2.out.trans hb3.out
      have c0 := (HB3.out.cell (p := ⟨w.heap.size, 0, none⟩) (by show w.heap.size < _; omega)).trans C0.out
      clear hb3 HB2 HO2 hrt hsz2
      go_wp2_with fail
      go_loopw [4, 29] (fun u i wr => ∃ (k : Nat) (M : List UInt8), k ≤ r.fs.length ∧ i = .int .i64 (k : Int) ∧ Hid (M = M0 ++ (r.fs.take k).flatMap fun f => wrF f.p) ∧ M.length ≤ 11 + 162 * k ∧ Own wr (w.heap.size + 1) u M ∧ Hid (Below (w.heap.size + 1) w1 wr)) (fun _ i _ => r.fs.length - (intOf i).toNat)
      case atStart => exact ⟨0, M0, by omega, rfl, by simp [Hid], by omega, HR3, HB3⟩
      case round =>
        obtain ⟨k, M, hk, rfl, HM, hml, HR, HB⟩ := hrel
        have hsz := HB.out.size
        by_cases hlt : k < r.fs.length
        · obtain ⟨b, off, rfl, hbw⟩ := HF.out.ptr (by omega)
          have HBw : Hid (Below w.heap.size w wr) := HB1.out.trans (HB.out.mono (by omega))
          obtain ⟨g, Hg⟩ := hid_ex r.fs[k]
          obtain ⟨d0, d1, d2, hfr⟩ := (HF.out.below HBw.out).three hlt g Hg.out
          have hmay : mayP g.p = true := by rw [Hg.out]; exact HAll.out.2 _ (List.getElem_mem hlt)
          obtain ⟨M2, HM2⟩ := hid_ex (M ++ wrF g.p)
          have HE2 : Hid (M2 = M0 ++ (r.fs.take (k + 1)).flatMap fun f => wrF f.p) := by
            unfold Hid; rw [HM2.out, HM.out, flat_snoc _ _ hlt, List.append_assoc, Hg.out]
          have hfl := wrF_len hmay
          have hml2 : M2.length ≤ 11 + 162 * (k + 1) := by rw [HM2.out, List.length_append]; omega
          obtain ⟨ga, gc, hgv, _⟩ := hfr.r.form
          have HWt : Hid (∀ W, Below wr.heap.size wr W → Calls Tryz.prog 44 #[.agg #[.slice ga g.D.length gc, .int .i64 g.t, .int .i64 g.x]] W fun e w' => ∃ v, e = .returned v ∧ Own w' W.heap.size v (wrF g.p) ∧ Below W.heap.size W w') := by
            intro W hW
            have := written_any g hmay W (hfr.below hW)
            unfold Fa.val at this
            rw [hgv] at this
            exact this
          rw [hgv] at d0
          clear hfr hgv c0
          go_wp2_with fail
          refine (HWt.out _ ((Below.refl _ wr).alloc (Nat.le_refl _) _)).mono ?_
          rintro e w4 ⟨v4, rfl, hot, hb4⟩
          have HB4 : Hid (Below (w.heap.size + 1) w1 w4) := HB.out.trans (((Below.refl _ wr).alloc (by omega) _).trans (hb4.mono (by simp; omega)))
          have HR4 : Own w4 (w.heap.size + 1) _ M := (HR.alloc _).below hb4
          have hrt : Reads w4 v4 (wrF g.p) := hot.reads
          have hsz4 := HB4.out.size
          clear hb4 HR hot HB hsz d0 d1 d2 HBw HWt
          go_wp2_with (at_builtin; refine wpList_app rfl _ _ rfl (w.heap.size + 1) _ _ M (wrF g.p) M2 HM2.out rfl rfl HR4 hrt (by omega) (by omega) ?_)
          intro v5 w5 HR5 hb5
          have HB5 : Hid (Below (w.heap.size + 1) w1 w5) := HB4.out.trans hb5.out
          clear hb5 HR4 HB4 hsz4 hrt
          go_wp2_with fail
          go_roundw
          case rel => exact ⟨k + 1, M2, by omega, by go_num, HE2, hml2, HR5, HB5⟩
          case measure => simp [intOf]; omega
        · have HMB : Hid (M = B) := by
            unfold Hid; rw [HM.out, List.take_of_length_le (by omega), HM0.out, HW2.out]; simp
          go_wp2_with fail
          go_ret2
          exact ⟨_, by rw [HE.out]; rfl, by rw [← HMB.out]; exact HR.mono (by omega), HB1.out.trans (HB.out.mono (by omega))⟩
end Go.Proofs.YtegcomopcoapjaaGreatDoor
