/- AK WR4 WR5 WR6, joined. -/
import Derived.Test.YtahigmjpeicemaaGreatDoorWH1
import Derived.Test.YtahigmjpeicemaaGreatDoorWH5
import Derived.Test.YtahigmjpeicemaaGreatDoorWH8
import Derived.Test.YtahigmjpeicemaaGreatDoorWH19
import Derived.Test.YtahigmjpeicemaaGreatDoorWH25
/- An append that leaves what is no byte as it is. -/
namespace Go.Proofs.YtahigmjpeicemaaGreatDoor
open Go.RowKit

/-- All cells but bytes stand. -/
def Kn (A B : World) : Prop := ∀ (c : Nat) (cs : Array Value) (T : TypeId) (fr : Nat × Nat), T ≠ 5 → A.heap[c]? = some (.cells cs T fr) → B.heap[c]? = some (.cells cs T fr)
theorem Kn.refl (A : World) : Kn A A := fun _ _ _ _ _ h => h
theorem Kn.of_below {A B : World} (h : Below A.heap.size A B) : Kn A B := fun c _ _ _ _ hc => (h.block c (Array.getElem?_eq_some_iff.1 hc).1).trans hc
theorem Kn.trans {A B C : World} (h : Kn A B) (k : Kn B C) : Kn A C := fun c cs T fr h1 hc => k c cs T fr h1 (h c cs T fr h1 hc)
theorem kn_grown {w w' : World} {base : Nat} {v : Value} {L : List UInt8} (hown : Own w base v L) (hg : w.grownBy w' v.ownBlock) : Kn w w' := by
  intro c cs T fr hT hc
  rw [hg.block c (Array.getElem?_eq_some_iff.1 hc).1 ?_]
  · exact hc
  · intro e
    rcases hown.2 with ⟨rfl, _⟩ | ⟨g, cap, cur, rfl, _, hgb, _⟩
    · simp [Value.ownBlock] at e
    · obtain rfl : c = g := by simpa [Value.ownBlock] using e
      rw [hc] at hgb
      simp at hgb
      exact hT hgb.2.1
theorem cell_rw {w : World} {b : Nat} {cs : Array Value} {T : TypeId} (h : w.heap[b]? = some (.cells cs T)) (i : Nat) (hi : i < cs.size) : w.cell? ⟨b, i, none⟩ = some cs[i] := by
  simp [World.cell?, h, hi]
theorem wpList_appK {w : World} {ops : Array Oper} {rest : List Oper} {o : Oper} {a : Act} {Q : Exit → Act → World → Prop} (hgd : o.guard = none) (s x : Operand)
    (ho : o.op = .call { callee := .builtin .append, args := #[s, x], argTypes := #[28, 28] })
    (base : Nat) (v vx : Value) (L l M : List UInt8) (hM : M = L ++ l) (hs : a.eval s = v) (hx : a.eval x = vx) (hown : Own w base v L) (hr : Reads w vx l)
    (hlen : L.length + l.length ≤ 140737488355328) (hbase : base ≤ w.heap.size)
    (h : ∀ v' w', Own w' base v' M → Hid (Below base w w') → Hid (Kn w w') → wpList Tryz.prog ops Q rest (a.put o.dst v') w') : wpList Tryz.prog ops Q (o :: rest) a w := by
  subst hM
  obtain ⟨i0, hi, hz0, hz1, hz2⟩ := info_parts info5
  rcases hr with ⟨rfl, ad, cap, rfl, hn⟩ | ⟨b, off, cap, rfl, h2, h3, h4, h5, h6⟩
  · cases ad with
    | none =>
      obtain rfl := hn rfl
      refine wpList_append_own_none hgd s x 28 ho base 5 i0 1 Tryz.underlying28 hi v L.length (L.map bc) hs hown hx ?_
      exact h v w (by rw [List.append_nil]; exact hown) (Below.refl _ _) (Kn.refl _)
    | some ad =>
      refine wpList_append_own w hgd s x 28 ho base 5 i0 (.int .u8 0) 1 1 Tryz.underlying28 hi hz0 hz1 hz2 rfl (by decide) v L.length (L.map bc) hs hown ad 0 cap [] hx (by simp) (by intro j u hj; simp at hj) (by intro u hu; simp at hu) (by simp [maxLen] at *; omega) (by simp at *; omega) hbase ?_
      intro v' w' hown' hgrow _
      refine h v' w' ?_ ((Below.refl _ _).grown hgrow hbase (own_block hown)) (kn_grown hown hgrow)
      unfold Own; simpa using hown'
  · refine wpList_append_own w hgd s x 28 ho base 5 i0 (.int .u8 0) 1 1 Tryz.underlying28 hi hz0 hz1 hz2 rfl (by decide) v L.length (L.map bc) hs hown ⟨b, off, none⟩ l.length cap (l.map bc) hx (by simp) (newsR h6) one_bc (by simp [maxLen] at *; omega) (by simp at *; omega) hbase ?_
    intro v' w' hown' hgrow _
    refine h v' w' ?_ ((Below.refl _ _).grown hgrow hbase (own_block hown)) (kn_grown hown hgrow)
    unfold Own; rw [List.length_append, List.map_append]; exact hown'
end Go.Proofs.YtahigmjpeicemaaGreatDoor

/- The reference's Write, of records. -/
namespace Go.Proofs.YtahigmjpeicemaaGreatDoor
open Go.RowKit Go.Shelf

theorem boxc {w : World} {X : Nat} {a b c : Value} {T : TypeId} (h : w.heap[X]? = some (.cells #[a, b, c] T)) : w.cell? ⟨X, 0, none⟩ = some a ∧ w.cell? ⟨X, 1, none⟩ = some b ∧ w.cell? ⟨X, 2, none⟩ = some c :=
  ⟨cell_rw h 0 (by simp), cell_rw h 1 (by simp), cell_rw h 2 (by simp)⟩
set_option maxRecDepth 100000 in
set_option maxHeartbeats 4000000 in
theorem wrefWrite_any (r : Rc) (w : World) (h : RcOk w r) : Calls Tryz.prog 17 #[r.val] w fun e w' => ∃ v, e = .returned (.tuple #[v, .int .i64 (wrE r)]) ∧ Own w' w.heap.size v (wrB r) ∧ Below w.heap.size w w' := by
  obtain ⟨a, cap, hv, hl1, hl2⟩ := h.f.form
  unfold maxLen at hl2
  have HB0 : Hid (Below w.heap.size w (w.alloc (.cells #[.slice a r.fs.length cap, .int .i64 r.m] 46))) := (Below.refl _ _).alloc (Nat.le_refl _) _
  have HRt : Hid (Calls Tryz.prog 42 #[.agg #[.slice a r.fs.length cap, .int .i64 r.m]] (w.alloc (.cells #[.slice a r.fs.length cap, .int .i64 r.m] 46)) fun e w' => e = .returned (.bool (rightR r.p r.m)) ∧ Below (w.alloc (.cells #[.slice a r.fs.length cap, .int .i64 r.m] 46)).heap.size (w.alloc (.cells #[.slice a r.fs.length cap, .int .i64 r.m] 46)) w') := by
    have := wrefRight_any r _ (h.below HB0.out)
    unfold Rc.val at this
    rw [hv] at this
    exact this
  obtain ⟨q, Hq⟩ := hid_ex (rightR r.p r.m)
  have HE : Hid (wrE r = if q = true then 0 else 90) := by unfold Hid wrE; rw [Hq.out]
  have HW : Hid (wrB r = if q = true then wrR r.p r.m else []) := by unfold Hid wrB; rw [Hq.out]
  obtain ⟨E, HEE⟩ := hid_ex (wrE r)
  obtain ⟨B, HBB⟩ := hid_ex (wrB r)
  rw [← HEE.out] at HE ⊢
  rw [← HBB.out] at HW ⊢
  rw [← Hq.out] at HRt
  have HF : Hid (FReads w (.slice a r.fs.length cap) r.fs) := by rw [← hv]; exact h.f
  have hm1 := h.m1
  have hm2 := h.m2
  unfold Rc.val
  rw [hv]
  clear HEE HBB h
  go_enter Tryz.func17, Tryz.ntmps17
  go_wp2_with fail
  refine HRt.out.mono ?_
  rintro e w1 ⟨rfl, hb1⟩
  have c0 := hb1.cell (p := ⟨w.heap.size, 0, none⟩) (by simp)
  have c1 := hb1.cell (p := ⟨w.heap.size, 1, none⟩) (by simp)
  simp [go_sem] at c0 c1
  have hz1 : w.heap.size + 1 ≤ w1.heap.size := by have := hb1.size; simpa using this
  have HB1 : Hid (Below w.heap.size w w1) := HB0.out.trans (hb1.mono (by simp))
  clear hb1 HRt HB0
  cases q with
  | false =>
    simp only [if_neg (show ¬ (false = true) by decide)] at HE HW
    go_wp2_with fail
    go_ret2
    exact ⟨_, by rw [HE.out]; rfl, by rw [HW.out]; exact Own.nil _ _, HB1.out⟩
  | true =>
    simp only at HE HW
    have HAll : Hid (r.fs.length ≤ 16 ∧ ∀ f ∈ r.fs, mayP f.p = true) := by
      obtain ⟨z1, z2⟩ := rightR_all Hq.out.symm
      refine ⟨by rw [← p_len]; exact z1, fun f hf => ?_⟩
      exact List.all_eq_true.1 z2 _ (List.mem_map.2 ⟨f, hf, rfl⟩)
    have h16 := HAll.out.1
    have HO1 : Own w1 (w.heap.size + 1) (.slice none 0 0) [] := Own.nil _ _
    by_cases h0 : r.fs.length = 0
    · have hp0 : r.p.length = 0 := by rw [p_len]; exact h0
      have HW2 : Hid (B = [2] ++ nb r.m) := by unfold Hid; rw [HW.out]; unfold wrR; rw [if_pos hp0]; rfl
      have hnm := nb_len r.m
      have C1 : Hid (w1.cell? ⟨w.heap.size, 1, none⟩ = some (.int .i64 r.m)) := c1
      clear hp0
      go_wp2_with (at_builtin; refine wpList_app1 rfl _ _ rfl (w.heap.size + 1) _ [] 2 [2] rfl rfl rfl rfl HO1 (by simp) (by omega) ?_)
      intro v2 w2 HO2 hb2
      have HB2 : Hid (Below (w.heap.size + 1) w1 w2) := hb2.out
      have c1 := (HB2.out.cell (p := ⟨w.heap.size, 1, none⟩) (by show w.heap.size < _; omega)).trans C1.out
      have hsz2 := HB2.out.size
      clear hb2
      go_wp2_with fail
      refine (refNumber_any r.m hm1 hm2 _).mono ?_
      rintro e w3 ⟨vt, rfl, hot, hb3⟩
      have HO3 : Own w3 (w.heap.size + 1) v2 [2] := HO2.below hb3
      have HB3 : Hid (Below (w.heap.size + 1) w1 w3) := HB2.out.trans (hb3.mono (by omega))
      have hrt : Reads w3 vt (nb r.m) := by rw [← hnm] at hot; exact reads_own hot
      have hsz3 := HB3.out.size
      clear hb3 hot HO2 HB2 hsz2 c1
      go_wp2_with (at_builtin; refine wpList_app rfl _ _ rfl (w.heap.size + 1) _ _ [2] (nb r.m) B HW2.out rfl rfl HO3 hrt (by simp; omega) (by omega) ?_)
      intro v4 w4 HR4 hb4
      go_wp2_with fail
      go_ret2
      exact ⟨_, by rw [HE.out]; rfl, HR4.mono (by omega), HB1.out.trans ((HB3.out.trans hb4.out).mono (by omega))⟩
    · have HW2 : Hid (B = 1 :: (sh r.fs.length ++ r.fs.flatMap fun f => wrF f.p)) := by
        have hp0 : ¬ r.p.length = 0 := by rw [p_len]; exact h0
        unfold Hid; rw [HW.out]; unfold wrR; rw [if_neg hp0, p_len, flat_map]; rfl
      have h0' : ¬ (r.fs.length : Int) = 0 := by omega
      clear HW
      obtain ⟨M0, HM0⟩ := hid_ex ([1] ++ sh r.fs.length)
      have hs10 := sh_len10 (n := r.fs.length) (by omega)
      have hm0 : M0.length ≤ 11 := by rw [HM0.out]; simp; omega
      have C0 : Hid (w1.cell? ⟨w.heap.size, 0, none⟩ = some (.slice a r.fs.length cap)) := c0
      clear c1
      go_wp2_with (at_builtin; refine wpList_app1 rfl _ _ rfl (w.heap.size + 1) _ [] 1 [1] rfl rfl rfl rfl HO1 (by simp) (by omega) ?_)
      intro v2 w2 HO2 hb2
      have HB2 : Hid (Below (w.heap.size + 1) w1 w2) := hb2.out
      have c0 := (HB2.out.cell (p := ⟨w.heap.size, 0, none⟩) (by show w.heap.size < _; omega)).trans C0.out
      have hsz2 := HB2.out.size
      clear hb2
      go_wp2_with fail
      refine (refShort_any r.fs.length (by omega) _).mono ?_
      rintro e w3 ⟨vt, rfl, hot, hb3⟩
      have HO3 : Own w3 (w.heap.size + 1) v2 [1] := HO2.below hb3
      have HB3 : Hid (Below (w.heap.size + 1) w1 w3) := HB2.out.trans (hb3.mono (by omega))
      have hrt : Reads w3 vt (sh r.fs.length) := reads_own hot
      have hsz3 := HB3.out.size
      clear hb3 hot HO2 HB2 hsz2 c0
      go_wp2_with (at_builtin; refine wpList_app rfl _ _ rfl (w.heap.size + 1) _ _ [1] (sh r.fs.length) M0 HM0.out rfl rfl HO3 hrt (by simp; omega) (by omega) ?_)
      intro v4 w4 HR4 hb4
      have HB4 : Hid (Below (w.heap.size + 1) w1 w4) := HB3.out.trans hb4.out
      have c0 := (HB4.out.cell (p := ⟨w.heap.size, 0, none⟩) (by show w.heap.size < _; omega)).trans C0.out
      clear hb4 HB3 HO3 hrt hsz3
      go_wp2_with fail
      go_loopw [4, 5] (fun u i wr => ∃ (k : Nat) (M : List UInt8), k ≤ r.fs.length ∧ i = .int .i64 (k : Int) ∧ Hid (M = M0 ++ (r.fs.take k).flatMap fun f => wrF f.p) ∧ M.length ≤ 11 + 162 * k ∧ Own wr (w.heap.size + 1) u M ∧ Hid (Below (w.heap.size + 1) w1 wr)) (fun _ i _ => r.fs.length - (intOf i).toNat)
      case atStart => exact ⟨0, M0, by omega, rfl, by simp [Hid], by omega, HR4, HB4⟩
      case round =>
        obtain ⟨k, M, hk, rfl, HM, hml, HR, HB⟩ := hrel
        have hsz := HB.out.size
        have c0 := (HB.out.cell (p := ⟨w.heap.size, 0, none⟩) (by show w.heap.size < _; omega)).trans C0.out
        by_cases hlt : k < r.fs.length
        · obtain ⟨b, off, rfl, hbw⟩ := HF.out.ptr (by omega)
          have HBw : Hid (Below w.heap.size w wr) := HB1.out.trans (HB.out.mono (by omega))
          obtain ⟨g, Hg⟩ := hid_ex r.fs[k]
          obtain ⟨_, _, _, hfr⟩ := HF.out.three hlt g Hg.out
          obtain ⟨d0, d1, d2, _⟩ := (HF.out.below HBw.out).three hlt g Hg.out
          have hmay : mayP g.p = true := by rw [Hg.out]; exact HAll.out.2 _ (List.getElem_mem hlt)
          have hmm := hmay
          unfold mayP at hmm
          rw [Bool.and_eq_true] at hmm
          have hM4 := mayB_iff.1 hmm.1
          simp only [Fa.p] at hM4
          obtain ⟨h4, h16'⟩ := hM4
          have HS : Hid (∀ s ∈ g.D, s.size ≤ 16) := h16'
          obtain ⟨Mz, HMz⟩ := hid_ex (M ++ wrF g.p)
          have HE2 : Hid (Mz = M0 ++ (r.fs.take (k + 1)).flatMap fun f => wrF f.p) := by
            unfold Hid; rw [HMz.out, HM.out, flat_snoc _ _ hlt, List.append_assoc, Hg.out]
          have hfl := wrF_len hmay
          have hmlz : Mz.length ≤ 11 + 162 * (k + 1) := by rw [HMz.out, List.length_append]; omega
          have HF2 : Hid (wrF g.p = sh g.D.length ++ (wrD g.D ++ (nb g.t ++ nb g.x))) := rfl
          obtain ⟨ga, gc, hgv, _⟩ := hfr.r.form
          have HR0 : Hid (SReads w (.slice ga g.D.length gc) g.D) := by rw [← hgv]; exact hfr.r
          obtain ⟨t1, t2, x1, x2⟩ := hfr.b
          have hgs : g.D.length ≤ 4 := h4
          have hs1 := sh_len10 (n := g.D.length) (by omega)
          obtain ⟨M1, HM1⟩ := hid_ex (M ++ sh g.D.length)
          have hm1' : M1.length ≤ M.length + 10 := by rw [HM1.out, List.length_append]; omega
          rw [hgv] at d0
          clear hfr hgv hmm h16' hmay HM HM0
          go_wp2_with fail
          obtain ⟨X, HX⟩ := hid_ex wr.heap.size
          rw [← HX.out]
          refine (refShort_any g.D.length (by omega) _).mono ?_
          rintro e w5 ⟨vs, rfl, hos, hb5⟩
          have hb5' : Below wr.heap.size wr w5 := ((Below.refl _ wr).alloc (Nat.le_refl _) _).trans (hb5.mono (by simp))
          have HB5 : Hid (Below (w.heap.size + 1) w1 w5) := HB.out.trans (hb5'.mono (by omega))
          have HO5 : Own w5 (w.heap.size + 1) _ M := HR.below hb5'
          have HK5 : Hid (w5.heap[X]? = some (.cells #[.slice ga g.D.length gc, .int .i64 g.t, .int .i64 g.x] 90)) := by
            rw [HX.out]; exact Kn.of_below hb5 _ _ _ _ (by decide) (World.alloc_heap_new _ _)
          have hrt5 : Reads w5 vs (sh g.D.length) := reads_own hos
          have hsz5 := HB5.out.size
          have hXs : w.heap.size + 1 ≤ X := by rw [HX.out]; omega
          clear hb5 hb5' hos HR HB hsz d0 d1 d2 c0 HX HBw
          go_wp2_with (at_builtin; refine wpList_appK rfl _ _ rfl (w.heap.size + 1) _ _ M (sh g.D.length) M1 HM1.out rfl rfl HO5 hrt5 (by omega) (by omega) ?_)
          intro v6 w6 HO6 hb6 hk6
          have HB6 : Hid (Below (w.heap.size + 1) w1 w6) := HB5.out.trans hb6.out
          have HK6 : Hid (w6.heap[X]? = some (.cells #[.slice ga g.D.length gc, .int .i64 g.t, .int .i64 g.x] 90)) := hk6.out _ _ _ _ (by decide) HK5.out
          obtain ⟨e0, e1, e2⟩ := boxc HK6.out
          clear hb6 hk6 HB5 HK5 HO5 hrt5 hsz5
          go_wp2_with fail
          go_loopw [4, 7] (fun u i wi => ∃ (j : Nat) (N : List UInt8), j ≤ g.D.length ∧ i = .int .i64 (j : Int) ∧ Hid (N = M1 ++ wrD (g.D.take j)) ∧ Own wi (w.heap.size + 1) u N ∧ Hid (Below (w.heap.size + 1) w1 wi) ∧ Hid (wi.heap[X]? = some (.cells #[.slice ga g.D.length gc, .int .i64 g.t, .int .i64 g.x] 90))) (fun _ i _ => g.D.length - (intOf i).toNat)
          case atStart => exact ⟨0, M1, by omega, rfl, by simp [Hid, wrD], HO6, HB6, HK6⟩
          case round =>
            obtain ⟨j, N, hj, rfl, HN, HRi, HBi, HKi⟩ := hrel
            have hszi := HBi.out.size
            have hnl : N.length ≤ M1.length + 150 := by
              have h9 := wrD_len (g.D.take j) fun s hs => HS.out s (List.mem_of_mem_take hs)
              rw [HN.out, List.length_append]; simp at h9; omega
            obtain ⟨e0, e1, e2⟩ := boxc HKi.out
            by_cases hjt : j < g.D.length
            · have HBw : Hid (Below w.heap.size w wr) := HB1.out.trans (HBi.out.mono (by omega))
              obtain ⟨b3, off3, rfl, _, hcw⟩ := (HR0.out.below HBw.out).at j hjt
              have hsk := HS.out _ (List.getElem_mem hjt)
              obtain ⟨N2, HN2⟩ := hid_ex (N ++ tx g.D[j].data.toList)
              have HE3 : Hid (N2 = M1 ++ wrD (g.D.take (j + 1))) := by
                rw [HN2.out, HN.out, wrD_snoc _ _ hjt, List.append_assoc]; rfl
              have htl : (tx g.D[j].data.toList).length ≤ 34 := by
                have := tx_len g.D[j].data.toList
                have h4 : g.D[j].data.toList.length = g.D[j].size := Array.length_toList
                omega
              generalize g.D[j] = s at *
              have hss : s.size ≤ 10000 := by omega
              clear HBw
              go_wp2_with fail
              refine (refText_any s hss _).mono ?_
              rintro e w7 ⟨vt7, rfl, hot, hb7⟩
              have HB7 : Hid (Below (w.heap.size + 1) w1 w7) := HBi.out.trans (hb7.mono (by omega))
              have HO7 : Own w7 (w.heap.size + 1) _ N := HRi.below hb7
              have HK7 : Hid (w7.heap[X]? = some (.cells #[.slice (some ⟨b3, off3, none⟩) g.D.length gc, .int .i64 g.t, .int .i64 g.x] 90)) := Kn.of_below hb7 _ _ _ _ (by decide) HKi.out
              have hrt7 : Reads w7 vt7 (tx s.data.toList) := reads_own hot
              have hsz7 := HB7.out.size
              clear hb7 hot HRi HBi hszi HKi e0 e1 e2 hcw
              go_wp2_with (at_builtin; refine wpList_appK rfl _ _ rfl (w.heap.size + 1) _ _ N (tx s.data.toList) N2 HN2.out rfl rfl HO7 hrt7 (by omega) (by omega) ?_)
              intro v8 w8 HO8 hb8 hk8
              have HB8 : Hid (Below (w.heap.size + 1) w1 w8) := HB7.out.trans hb8.out
              have HK8 : Hid (w8.heap[X]? = some (.cells #[.slice (some ⟨b3, off3, none⟩) g.D.length gc, .int .i64 g.t, .int .i64 g.x] 90)) := hk8.out _ _ _ _ (by decide) HK7.out
              clear hb8 hk8 HB7 HK7 HO7 hrt7 hsz7
              go_wp2_with fail
              go_roundw
              case rel => exact ⟨j + 1, N2, by omega, by go_num, HE3, HO8, HB8, HK8⟩
              case measure => simp [intOf]; omega
            · obtain ⟨N1, HN1⟩ := hid_ex (N ++ nb g.t)
              have HE3 : Hid (Mz = N1 ++ nb g.x) := by
                unfold Hid; rw [HMz.out, HN1.out, HN.out, List.take_of_length_le (by omega), HM1.out, HF2.out]; simp
              have hn1 : N1.length = N.length + 8 := by rw [HN1.out, List.length_append, nb_len]
              have hnt := nb_len g.t
              have hnx := nb_len g.x
              clear HN
              go_wp2_with fail
              refine (refNumber_any g.t t1 t2 _).mono ?_
              rintro e w7 ⟨vt7, rfl, hot, hb7⟩
              have HB7 : Hid (Below (w.heap.size + 1) w1 w7) := HBi.out.trans (hb7.mono (by omega))
              have HO7 : Own w7 (w.heap.size + 1) _ N := HRi.below hb7
              have HK7 : Hid (w7.heap[X]? = some (.cells #[.slice ga g.D.length gc, .int .i64 g.t, .int .i64 g.x] 90)) := Kn.of_below hb7 _ _ _ _ (by decide) HKi.out
              have hrt7 : Reads w7 vt7 (nb g.t) := by rw [← hnt] at hot; exact reads_own hot
              have hsz7 := HB7.out.size
              clear hb7 hot HRi HBi hszi HKi e0 e1 e2
              go_wp2_with (at_builtin; refine wpList_appK rfl _ _ rfl (w.heap.size + 1) _ _ N (nb g.t) N1 HN1.out rfl rfl HO7 hrt7 (by omega) (by omega) ?_)
              intro v8 w8 HO8 hb8 hk8
              have HB8 : Hid (Below (w.heap.size + 1) w1 w8) := HB7.out.trans hb8.out
              have HK8 : Hid (w8.heap[X]? = some (.cells #[.slice ga g.D.length gc, .int .i64 g.t, .int .i64 g.x] 90)) := hk8.out _ _ _ _ (by decide) HK7.out
              have hsz8 := HB8.out.size
              obtain ⟨e0, e1, e2⟩ := boxc HK8.out
              clear hb8 hk8 HB7 HK7 HO7 hrt7 hsz7
              go_wp2_with fail
              refine (refNumber_any g.x x1 x2 _).mono ?_
              rintro e w9 ⟨vt9, rfl, hot, hb9⟩
              have HB9 : Hid (Below (w.heap.size + 1) w1 w9) := HB8.out.trans (hb9.mono (by omega))
              have HO9 : Own w9 (w.heap.size + 1) _ N1 := HO8.below hb9
              have hrt9 : Reads w9 vt9 (nb g.x) := by rw [← hnx] at hot; exact reads_own hot
              have hsz9 := HB9.out.size
              clear hb9 hot HO8 HB8 hsz8 HK8 e0 e1 e2
              go_wp2_with (at_builtin; refine wpList_app rfl _ _ rfl (w.heap.size + 1) _ _ N1 (nb g.x) Mz HE3.out rfl rfl HO9 hrt9 (by omega) (by omega) ?_)
              intro va wa HOa hba
              have HBa : Hid (Below (w.heap.size + 1) w1 wa) := HB9.out.trans hba.out
              clear hba HB9 HO9 hrt9 hsz9
              go_wp2_with fail
              go_roundw
              case rel => exact ⟨k + 1, Mz, by omega, by go_num, HE2, hmlz, HOa, HBa⟩
              case measure => simp [intOf]; omega
        · have HMB : Hid (M = B) := by
            unfold Hid; rw [HM.out, List.take_of_length_le (by omega), HM0.out, HW2.out]; simp
          go_wp2_with fail
          go_ret2
          exact ⟨_, by rw [HE.out]; rfl, by rw [← HMB.out]; exact HR.mono (by omega), HB1.out.trans (HB.out.mono (by omega))⟩
end Go.Proofs.YtahigmjpeicemaaGreatDoor

/- The reference's fact: one at a text's front. -/
namespace Go.Proofs.YtahigmjpeicemaaGreatDoor
open Go.RowKit Go.Shelf

/-- What the reference's fact tells. -/
def FrPost (w : World) (b : List UInt8) (e : Ending) (w' : World) : Prop := Below w.heap.size w w' ∧ match rdF b with
  | none => ∃ a n c t x, e = .returned (.tuple #[.agg #[.slice a n c, .int .i64 t, .int .i64 x], .int .i64 0])
  | some (f, r) => ∃ a n c at', e = .returned (.tuple #[.agg #[.slice a n c, .int .i64 f.t, .int .i64 f.x], .int .i64 (at' : Nat)]) ∧ SOwn w' (w.heap.size + 2) (.slice a n c) f.D ∧ r = b.drop at' ∧ 16 ≤ at' ∧ at' ≤ b.length
theorem FrPost.no {w : World} {b : List UInt8} {w' : World} (h : rdF b = none) (hb : Below w.heap.size w w') (a : Option Addr) (n c : Nat) (t x : Int) : FrPost w b (.returned (.tuple #[.agg #[.slice a n c, .int .i64 t, .int .i64 x], .int .i64 0])) w' := by
  unfold FrPost; rw [h]; exact ⟨hb, a, n, c, t, x, rfl⟩
theorem FrPost.yes {w : World} {b : List UInt8} {w' : World} {D : List ByteArray} {t x : Int} {r : List UInt8} {a : Option Addr} {n c at' : Nat} (h : rdF b = some (⟨D, t, x⟩, r)) (hb : Below w.heap.size w w') (h1 : SOwn w' (w.heap.size + 2) (.slice a n c) D) (h2 : r = b.drop at') (h3 : 16 ≤ at') (h4 : at' ≤ b.length) : FrPost w b (.returned (.tuple #[.agg #[.slice a n c, .int .i64 t, .int .i64 x], .int .i64 (at' : Nat)])) w' := by
  unfold FrPost; rw [h]; exact ⟨hb, a, n, c, at', rfl, h1, h2, h3, h4⟩
theorem results_ct {fn : Func} {p u : Tmp} {ty : TypeId} (h : fn.results = #[.cell p ty, .tmp u]) (tmps : Array Value) (w : World) (g : Nat) (cs : Array Value)
    (hp : tmps.getD p undef = .pointer (some ⟨g, 0, none⟩)) (hl : (loadVar ty ⟨g, 0, none⟩).run Tryz.prog w = .ok (.agg cs) w) :
    (results fn tmps).run Tryz.prog w = .ok (.tuple #[.agg cs, tmps.getD u undef]) w := by
  have hp' : tmps[p]?.getD undef = .pointer (some ⟨g, 0, none⟩) := by simpa using hp
  simp [results, h, hp', asAddr, hl]
def Z3 (v t x : Value) : Obj := .cells #[v, t, x] 90
theorem set_ne {w : World} {g b o : Nat} {x : Value} {ob : Obj} (h : w.heap[g]? = some ob) (hb : b ≠ g) : (w.setCell ⟨b, o, none⟩ x).heap[g]? = some ob :=
  (Below.heap_setCell w ⟨b, o, none⟩ x g (by simp; omega)).trans h
set_option maxRecDepth 100000 in
set_option maxHeartbeats 4000000 in
theorem wrefFact_any (v : Value) (b : List UInt8) (hbl : b.length ≤ 10000) (w : World) (hR : Reads w v b) : Calls Tryz.prog 84 #[v] w (FrPost w b) := by
  obtain ⟨a, cap, rfl, hm⟩ := hR.form
  unfold maxLen at hm
  have HR : Hid (Reads w (.slice a b.length cap) b) := hR
  clear hR
  obtain ⟨C, HC⟩ := hid_ex (rsF b 0 0).1
  obtain ⟨N, HN⟩ := hid_ex (rsF b 0 0).2.1
  obtain ⟨E, HE⟩ := hid_ex (rsF b 0 0).2.2
  have HB0 : Hid (Below w.heap.size w ((w.alloc (.cells #[.slice none 0 0, .int .i64 0, .int .i64 0] 90)).alloc (.cells #[.slice none 0 0, .int .i64 0, .int .i64 0] 90))) := ((Below.refl _ _).alloc (Nat.le_refl _) _).alloc (by simp) _
  have HRS : Hid (Calls Tryz.prog 83 #[.slice a b.length cap] ((w.alloc (.cells #[.slice none 0 0, .int .i64 0, .int .i64 0] 90)).alloc (.cells #[.slice none 0 0, .int .i64 0, .int .i64 0] 90)) fun e w' => e = .returned (.tuple #[.int .u64 (C : Int), .int .i64 (N : Int), .int .i64 E]) ∧ Below (w.heap.size + 2) ((w.alloc (.cells #[.slice none 0 0, .int .i64 0, .int .i64 0] 90)).alloc (.cells #[.slice none 0 0, .int .i64 0, .int .i64 0] 90)) w') := by
    have := refReadShort_any _ b _ (HR.out.below HB0.out)
    rw [← HC.out, ← HN.out, ← HE.out] at this
    unfold Hid
    simpa using this
  go_enter Tryz.func84, Tryz.ntmps84
  go_wp2_with fail
  refine HRS.out.mono ?_
  rintro e w1 ⟨rfl, hb1⟩
  have HK1 : Hid (w1.heap[w.heap.size + 1]? = some (Z3 (.slice none 0 0) (.int .i64 0) (.int .i64 0))) := (hb1.block (w.heap.size + 1) (by omega)).trans (by have := World.alloc_heap_new (w.alloc (.cells #[.slice none 0 0, .int .i64 0, .int .i64 0] 90)) (.cells #[.slice none 0 0, .int .i64 0, .int .i64 0] 90); simpa [Z3] using this)
  have HJ1 : Hid (w1.heap[w.heap.size]? = some (Z3 (.slice none 0 0) (.int .i64 0) (.int .i64 0))) := (hb1.block w.heap.size (by omega)).trans ((((Below.refl (w.heap.size + 1) (w.alloc (.cells #[.slice none 0 0, .int .i64 0, .int .i64 0] 90))).alloc (by simp) _).block w.heap.size (by omega)).trans (World.alloc_heap_new _ _))
  have hz1 : w.heap.size + 2 ≤ w1.heap.size := by have := hb1.size; simpa using this
  have HB1 : Hid (Below w.heap.size w w1) := HB0.out.trans (hb1.mono (by omega))
  clear hb1 HRS HB0
  by_cases hE : E = 0
  · subst hE
    by_cases hC : C ≤ 4
    · have hC' : ¬ (4 : Int) < (C : Int) := by omega
      have HNl : Hid (N ≤ b.length) := by
        obtain ⟨u, c, h1, _, h3, _⟩ := rsF_ok b 0 0 C N (by rw [HC.out, HN.out, HE.out]) (by omega) (by simp)
        show N ≤ _
        omega
      have HG : Hid (rdF b = match rdD C (b.drop N) with
          | none => none
          | some (D, r) => if r.length < 16 then none else some (⟨D, (rnF r).1, (rnF (r.drop 8)).1⟩, r.drop 16)) := by
        have := rdF_go (b := b) HE.out.symm (by rw [← HC.out]; exact hC)
        rw [← HC.out, ← HN.out] at this
        exact this
      have hNl := HNl.out
      have hd0 : decide ((4 : Int) < (C : Int)) = false := decide_eq_false hC'
      clear HC HN HE
      go_wp2_with fail
      go_loopw [6, 8] (fun av i wr => ∃ (k A : Nat) (M : List ByteArray) (ad : Option Addr) (cd : Nat), k ≤ C ∧ A ≤ b.length ∧ av = .int .i64 (A : Int) ∧ i = .int .u64 (k : Int) ∧ Hid (M.length = k) ∧ Hid (rdD C (b.drop N) = (rdD (C - k) (b.drop A)).map fun q => (M ++ q.1, q.2)) ∧ SOwn wr (w.heap.size + 2) (.slice ad M.length cd) M ∧ Hid (Below w.heap.size w wr) ∧ Hid (wr.heap[w.heap.size]? = some (Z3 (.slice none 0 0) (.int .i64 0) (.int .i64 0))) ∧ Hid (wr.heap[w.heap.size + 1]? = some (Z3 (.slice ad M.length cd) (.int .i64 0) (.int .i64 0))) ∧ w.heap.size + 2 ≤ wr.heap.size) (fun _ i _ => C - (intOf i).toNat)
      case atStart =>
        refine ⟨0, N, [], none, 0, by omega, hNl, rfl, rfl, rfl, ?_, SOwn.nil _ _, HB1, HJ1, HK1, hz1⟩
        simp [Hid]
      case round =>
        obtain ⟨k, A, M, ad, cd, hk, hA, rfl, rfl, HML, HD, HO, HB, HJ, HK, hz⟩ := hrel
        obtain ⟨ar, cr, hsl, hrd⟩ := sl_from HR.out hA
        have HRr : Hid (Reads w (.slice ar (b.length - A) cr) (b.drop A)) := hrd
        have hrl : (b.drop A).length ≤ 10000 := by simp; omega
        obtain ⟨r, Hr⟩ := hid_ex (b.drop A)
        have hrlen : r.length = b.length - A := by rw [Hr.out]; simp
        rw [← Hr.out] at HD HRr hrl
        clear hrd
        by_cases hlt : (k : Int) < (C : Int)
        · have HT : Hid (Calls Tryz.prog 111 #[.slice ar (b.length - A) cr] wr fun e w' => e = .returned (.tuple #[.string ⟨(rtF r [] 0).1.toArray⟩, .int .i64 (rtF r [] 0).2.1, .int .i64 (rtF r [] 0).2.2]) ∧ Below wr.heap.size wr w') := refReadText_any _ r hrl wr (HRr.out.below HB.out)
          have HD1 : Hid (rdD (C - k) r = if (rtF r [] 0).2.2 = 0 then (rdD (C - (k + 1)) (r.drop (rtF r [] 0).2.1)).map (fun q => (⟨(rtF r [] 0).1.toArray⟩ :: q.1, q.2)) else none) := by
            unfold Hid; rw [show C - k = (C - (k + 1)) + 1 by omega, rdD]
          obtain ⟨S, HS⟩ := hid_ex (⟨(rtF r [] 0).1.toArray⟩ : ByteArray)
          obtain ⟨L, HL⟩ := hid_ex (rtF r [] 0).2.1
          obtain ⟨F, HF⟩ := hid_ex (rtF r [] 0).2.2
          have HOk : Hid (F = 0 → L ≤ r.length ∧ S.size ≤ 10000) := by
            intro h
            obtain ⟨s, c, h1, _, h3, h4, h5⟩ := rtF_ok r.length r [] 0 (rtF r [] 0).1 L (Nat.le_refl _) (by rw [HL.out, ← h, HF.out])
            have h6 := congrArg List.length h5
            have h7 : s.length ≤ (tx s).length := by unfold tx; rw [List.length_append]; have := txb_ge s; omega
            rw [h6.trans (List.length_take_of_le h3)] at h7
            refine ⟨by omega, ?_⟩
            rw [HS.out, h4]
            show ([] ++ s).toArray.size ≤ _
            simp
            omega
          rw [← HS.out, ← HL.out, ← HF.out] at HT HD1
          have Hrl : Hid (r.length = b.length - A) := hrlen
          clear HS HL HF hrlen hrl
          go_wp2_with fail
          refine HT.out.mono ?_
          rintro e w2 ⟨rfl, hb2⟩
          have HB2 : Hid (Below w.heap.size w w2) := HB.out.trans (hb2.mono HB.out.size)
          have HO2 : SOwn w2 (w.heap.size + 2) (.slice ad M.length cd) M := HO.below hb2
          have HJ2 : Hid (w2.heap[w.heap.size]? = some (Z3 (.slice none 0 0) (.int .i64 0) (.int .i64 0))) := (hb2.block w.heap.size (by omega)).trans HJ.out
          have HK2 : Hid (w2.heap[w.heap.size + 1]? = some (Z3 (.slice ad M.length cd) (.int .i64 0) (.int .i64 0))) := (hb2.block (w.heap.size + 1) (by omega)).trans HK.out
          have hz2 : w.heap.size + 2 ≤ w2.heap.size := by have := hb2.size; omega
          clear hb2 HB HO HK HJ HT hz hsl
          have k0 := cl3 HK2.out 0 (by simp)
          have k1 := cl3 HK2.out 1 (by simp)
          have k2 := cl3 HK2.out 2 (by simp)
          simp only [List.getElem_toArray, List.getElem_cons_succ, List.getElem_cons_zero] at k0 k1 k2
          by_cases hF : F = 0
          · subst hF
            obtain ⟨hL1, hS1⟩ := HOk.out rfl
            rw [if_pos rfl] at HD1
            obtain ⟨M2, HM2⟩ := hid_ex (M ++ [S])
            have HD2 : Hid (rdD C (b.drop N) = (rdD (C - (k + 1)) (b.drop (A + L))).map fun q => (M2 ++ q.1, q.2)) := by
              unfold Hid; rw [HD.out, HD1.out, HM2.out, Option.map_map, Hr.out, List.drop_drop]; congr 1; funext q; simp
            have HML2 : Hid (M2.length = k + 1) := by unfold Hid; rw [HM2.out, List.length_append, HML.out]; rfl
            have hMl : M.length + 1 ≤ 8796093022208 := by have := HML.out; omega
            have hAL : A + L ≤ b.length := by have := Hrl.out; omega
            clear HD HD1 HRr HML hL1
            go_wp2_with (at_builtin; refine wpList_sapp1 rfl _ _ rfl (w.heap.size + 2) _ M M2 HM2.out (by unfold maxLen; omega) rfl rfl HO2 hMl (by omega) ?_)
            intro v3 w3 HO3 hb3
            have HB3 : Hid (Below w.heap.size w w3) := HB2.out.trans (hb3.out.mono (by omega))
            have HJ3 : Hid (w3.heap[w.heap.size]? = some (Z3 (.slice none 0 0) (.int .i64 0) (.int .i64 0))) := (hb3.out.block w.heap.size (by omega)).trans HJ2.out
            have HK3 : Hid (w3.heap[w.heap.size + 1]? = some (Z3 (.slice ad M.length cd) (.int .i64 0) (.int .i64 0))) := (hb3.out.block (w.heap.size + 1) (by omega)).trans HK2.out
            have hz3 : w.heap.size + 2 ≤ w3.heap.size := by have := hb3.out.size; omega
            clear hb3 HB2 HO2 HJ2 HK2 hz2 k0 k1 k2
            obtain ⟨a3, c3, hv3⟩ : ∃ a c, v3 = .slice a M2.length c := row_form2 HO3.1
            subst hv3
            have f0 := fz3 HK3.out 0
            have k0 := cl3 HK3.out 0 (by simp)
            simp only [List.getElem_toArray, List.getElem_cons_zero] at k0
            have HO4 := sown_set (b := w.heap.size + 1) (o := 0) (x := .slice a3 M2.length c3) HO3 (by omega)
            have HB4 : Hid (Below w.heap.size w (w3.setCell ⟨w.heap.size + 1, 0, none⟩ (.slice a3 M2.length c3))) := HB3.out.setCell (p := ⟨w.heap.size + 1, 0, none⟩) (by show w.heap.size ≤ w.heap.size + 1; omega) _
            have HJ4 : Hid ((w3.setCell ⟨w.heap.size + 1, 0, none⟩ (.slice a3 M2.length c3)).heap[w.heap.size]? = some (Z3 (.slice none 0 0) (.int .i64 0) (.int .i64 0))) := set_ne HJ3.out (by omega)
            have HK4 : Hid ((w3.setCell ⟨w.heap.size + 1, 0, none⟩ (.slice a3 M2.length c3)).heap[w.heap.size + 1]? = some (Z3 (.slice a3 M2.length c3) (.int .i64 0) (.int .i64 0))) := (cells_set HK3.out 0 _).trans rfl
            clear HO3 HB3 HJ3 HK3
            go_wp2_with fail
            go_roundw
            case rel => exact ⟨k + 1, A + L, M2, a3, c3, by omega, hAL, by go_num, by go_num, HML2, HD2, HO4, HB4, HJ4, HK4, by simpa using hz3⟩
            case measure => simp [intOf]; omega
          · have HNo : Hid (rdF b = none) := by
              unfold Hid; rw [HG.out, HD.out, HD1.out, if_neg hF]; rfl
            have hF' : (F != 0) = true := by simpa using hF
            clear hF
            have f0 := fz3 HJ2.out 0
            have f1 := fz3 HJ2.out 1
            have f2 := fz3 HJ2.out 2
            have j0 := cl3 HJ2.out 0 (by simp)
            have j1 := cl3 HJ2.out 1 (by simp)
            have j2 := cl3 HJ2.out 2 (by simp)
            simp only [List.getElem_toArray, List.getElem_cons_succ, List.getElem_cons_zero] at j0 j1 j2
            go_wp2_with fail
            have HK9 := set3 HJ2.out rfl (.slice ad M.length cd) (.int .i64 0) (.int .i64 0)
            refine bodyPost_ret (results_ct rfl _ _ w.heap.size _ rfl (run_loadVar_row _ w.heap.size _ _ _ (0, 0) _ HK9 Tryz.underlying90 rfl (by kernel_rfl))) rfl ?_
            exact FrPost.no HNo.out (below3 HB2.out (Nat.le_refl _) _ _ _) _ _ _ _ _
        · have HD3 : Hid (rdD C (b.drop N) = some (M, r)) := by
            unfold Hid; rw [HD.out, show C - k = 0 by omega]; simp [rdD]
          have HG2 : Hid (rdF b = if r.length < 16 then none else some (⟨M, (rnF r).1, (rnF (r.drop 8)).1⟩, r.drop 16)) := by
            unfold Hid; rw [HG.out, HD3.out]
          clear HD HD3 HG
          have k0 := cl3 HK.out 0 (by simp)
          have k1 := cl3 HK.out 1 (by simp)
          have k2 := cl3 HK.out 2 (by simp)
          simp only [List.getElem_toArray, List.getElem_cons_succ, List.getElem_cons_zero] at k0 k1 k2
          by_cases h16 : (b.length : Int) - (A : Int) < 16
          · have HNo : Hid (rdF b = none) := by unfold Hid; rw [HG2.out, if_pos (by omega)]
            have f0 := fz3 HJ.out 0
            have f1 := fz3 HJ.out 1
            have f2 := fz3 HJ.out 2
            have j0 := cl3 HJ.out 0 (by simp)
            have j1 := cl3 HJ.out 1 (by simp)
            have j2 := cl3 HJ.out 2 (by simp)
            simp only [List.getElem_toArray, List.getElem_cons_succ, List.getElem_cons_zero] at j0 j1 j2
            go_wp2_with fail
            have HK9 := set3 HJ.out rfl (.slice ad M.length cd) (.int .i64 0) (.int .i64 0)
            refine bodyPost_ret (results_ct rfl _ _ w.heap.size _ rfl (run_loadVar_row _ w.heap.size _ _ _ (0, 0) _ HK9 Tryz.underlying90 rfl (by kernel_rfl))) rfl ?_
            exact FrPost.no HNo.out (below3 HB.out (Nat.le_refl _) _ _ _) _ _ _ _ _
          · obtain ⟨T, HTT⟩ := hid_ex (rnF r).1
            obtain ⟨V, HVV⟩ := hid_ex (rnF (r.drop 8)).1
            have HYes : Hid (rdF b = some (⟨M, T, V⟩, r.drop 16)) := by unfold Hid; rw [HG2.out, if_neg (by omega), HTT.out, HVV.out]
            have Hd : Hid (r.drop 16 = b.drop (A + 16)) := by unfold Hid; rw [Hr.out, List.drop_drop]
            have HN1 : Hid (Calls Tryz.prog 82 #[.slice ar (b.length - A) cr] wr fun e w' => e = .returned (.tuple #[.int .i64 T, .int .i64 8, .int .i64 0]) ∧ Below wr.heap.size wr w') := by
              have := refReadNumber_any _ r wr (HRr.out.below HB.out)
              rw [rn_hi (by omega), ← HTT.out] at this
              exact this
            obtain ⟨a5, c5, hsl5, hrd5⟩ := sl_from HR.out (c := A + 8) (by omega)
            have hsl6 : ∀ w', (Instr.slice 28 (.slice a b.length cap) (some (.int .i64 ((A : Int) + 8))) none none).run Tryz.prog w' = .ok (.slice a5 (b.length - (A + 8)) c5) w' := hsl5
            have HN2 : Hid (∀ W, Below w.heap.size w W → Calls Tryz.prog 82 #[.slice a5 (b.length - (A + 8)) c5] W fun e w' => e = .returned (.tuple #[.int .i64 V, .int .i64 8, .int .i64 0]) ∧ Below W.heap.size W w') := by
              intro W hW
              have := refReadNumber_any _ (b.drop (A + 8)) W (hrd5.below hW)
              have e8 : b.drop (A + 8) = r.drop 8 := by rw [Hr.out, List.drop_drop]
              rw [e8, rn_hi (show ¬ (r.drop 8).length < 8 by simp; omega), ← HVV.out] at this
              exact this
            have hA16 : A + 16 ≤ b.length := by omega
            clear hsl5 hrd5 HG2 HTT HVV Hr hrlen HRr k0 k1 k2
            go_wp2_with fail
            refine HN1.out.mono ?_
            rintro e w4 ⟨rfl, hb4⟩
            have HB4 : Hid (Below w.heap.size w w4) := HB.out.trans (hb4.mono HB.out.size)
            have HO4 : SOwn w4 (w.heap.size + 2) (.slice ad M.length cd) M := HO.below hb4
            have HJ4 : Hid (w4.heap[w.heap.size]? = some (Z3 (.slice none 0 0) (.int .i64 0) (.int .i64 0))) := (hb4.block w.heap.size (by omega)).trans HJ.out
            have HK4 : Hid (w4.heap[w.heap.size + 1]? = some (Z3 (.slice ad M.length cd) (.int .i64 0) (.int .i64 0))) := (hb4.block (w.heap.size + 1) (by omega)).trans HK.out
            have hz4 : w.heap.size + 2 ≤ w4.heap.size := by have := hb4.size; omega
            have HO5 := sown_set (b := w.heap.size + 1) (o := 1) (x := .int .i64 T) HO4 (by omega)
            have HB5 : Hid (Below w.heap.size w (w4.setCell ⟨w.heap.size + 1, 1, none⟩ (.int .i64 T))) := HB4.out.setCell (p := ⟨w.heap.size + 1, 1, none⟩) (by show w.heap.size ≤ w.heap.size + 1; omega) _
            have HJ5 : Hid ((w4.setCell ⟨w.heap.size + 1, 1, none⟩ (.int .i64 T)).heap[w.heap.size]? = some (Z3 (.slice none 0 0) (.int .i64 0) (.int .i64 0))) := set_ne HJ4.out (by omega)
            have HK5 : Hid ((w4.setCell ⟨w.heap.size + 1, 1, none⟩ (.int .i64 T)).heap[w.heap.size + 1]? = some (Z3 (.slice ad M.length cd) (.int .i64 T) (.int .i64 0))) := (cells_set HK4.out 1 _).trans rfl
            have hz5 : w.heap.size + 2 ≤ (w4.setCell ⟨w.heap.size + 1, 1, none⟩ (.int .i64 T)).heap.size := by simpa using hz4
            have f1 := fz3 HK4.out 1
            have k1 := cl3 HK4.out 1 (by simp)
            simp only [List.getElem_toArray, List.getElem_cons_succ, List.getElem_cons_zero] at k1
            clear hb4 HN1 HB HO HJ HK hz hsl HO4 HB4 HJ4 HK4 hz4
            go_wp2_with fail
            generalize w4.setCell ⟨w.heap.size + 1, 1, none⟩ (.int .i64 T) = wx at *
            refine (HN2.out _ HB5.out).mono ?_
            rintro e w6 ⟨rfl, hb6⟩
            have HB6 : Hid (Below w.heap.size w w6) := HB5.out.trans (hb6.mono HB5.out.size)
            have HO6 : SOwn w6 (w.heap.size + 2) (.slice ad M.length cd) M := HO5.below hb6
            have HJ6 : Hid (w6.heap[w.heap.size]? = some (Z3 (.slice none 0 0) (.int .i64 0) (.int .i64 0))) := (hb6.block w.heap.size (by omega)).trans HJ5.out
            have HK6 : Hid (w6.heap[w.heap.size + 1]? = some (Z3 (.slice ad M.length cd) (.int .i64 T) (.int .i64 0))) := (hb6.block (w.heap.size + 1) (by omega)).trans HK5.out
            have HO7 := sown_set (b := w.heap.size + 1) (o := 2) (x := .int .i64 V) HO6 (by omega)
            have HB7 : Hid (Below w.heap.size w (w6.setCell ⟨w.heap.size + 1, 2, none⟩ (.int .i64 V))) := HB6.out.setCell (p := ⟨w.heap.size + 1, 2, none⟩) (by show w.heap.size ≤ w.heap.size + 1; omega) _
            have HJ7 : Hid ((w6.setCell ⟨w.heap.size + 1, 2, none⟩ (.int .i64 V)).heap[w.heap.size]? = some (Z3 (.slice none 0 0) (.int .i64 0) (.int .i64 0))) := set_ne HJ6.out (by omega)
            have HK7 : Hid ((w6.setCell ⟨w.heap.size + 1, 2, none⟩ (.int .i64 V)).heap[w.heap.size + 1]? = some (Z3 (.slice ad M.length cd) (.int .i64 T) (.int .i64 V))) := (cells_set HK6.out 2 _).trans rfl
            have f1 := fz3 HK6.out 2
            have k1 := cl3 HK6.out 2 (by simp)
            have m0 := cl3 HK7.out 0 (by simp)
            have m1 := cl3 HK7.out 1 (by simp)
            have m2 := cl3 HK7.out 2 (by simp)
            have f0 := fz3 HJ7.out 0
            have f1' := fz3 HJ7.out 1
            have f2 := fz3 HJ7.out 2
            have j0 := cl3 HJ7.out 0 (by simp)
            have j1 := cl3 HJ7.out 1 (by simp)
            have j2 := cl3 HJ7.out 2 (by simp)
            simp only [List.getElem_toArray, List.getElem_cons_succ, List.getElem_cons_zero] at k1 m0 m1 m2 j0 j1 j2
            clear hb6 HN2 HB5 HO5 HJ5 HK5 hz5 HO6 HB6 HJ6 HK6 hsl6
            go_wp2_with fail
            have HK9 := set3 HJ7.out rfl (.slice ad M.length cd) (.int .i64 T) (.int .i64 V)
            refine bodyPost_ret (results_ct rfl _ _ w.heap.size _ rfl (run_loadVar_row _ w.heap.size _ _ _ (0, 0) _ HK9 Tryz.underlying90 rfl (by kernel_rfl))) rfl ?_
            exact FrPost.yes (at' := A + 16) HYes.out (below3 HB7.out (Nat.le_refl _) _ _ _) (sown_set (sown_set (sown_set HO7 (by omega)) (by omega)) (by omega)) Hd.out (by omega) hA16
    · have HNo : Hid (rdF b = none) := rdF_bad (fun h => hC (by rw [HC.out]; exact h.2))
      have hC' : (4 : Int) < (C : Int) := by omega
      clear hC
      have k0 := cl3 HK1.out 0 (by simp)
      have k1 := cl3 HK1.out 1 (by simp)
      have k2 := cl3 HK1.out 2 (by simp)
      have f0 := fz3 HJ1.out 0
      have f1 := fz3 HJ1.out 1
      have f2 := fz3 HJ1.out 2
      have j0 := cl3 HJ1.out 0 (by simp)
      have j1 := cl3 HJ1.out 1 (by simp)
      have j2 := cl3 HJ1.out 2 (by simp)
      simp only [List.getElem_toArray, List.getElem_cons_succ, List.getElem_cons_zero] at k0 k1 k2 j0 j1 j2
      go_wp2_with fail
      have HK9 := set3 HJ1.out rfl (.slice none 0 0) (.int .i64 0) (.int .i64 0)
      refine bodyPost_ret (results_ct rfl _ _ w.heap.size _ rfl (run_loadVar_row _ w.heap.size _ _ _ (0, 0) _ HK9 Tryz.underlying90 rfl (by kernel_rfl))) rfl ?_
      exact FrPost.no HNo.out (below3 HB1.out (Nat.le_refl _) _ _ _) _ _ _ _ _
  · have HNo : Hid (rdF b = none) := rdF_bad (fun h => hE (by rw [HE.out]; exact h.1))
    have hE' : (E != 0) = true := by simpa using hE
    clear hE
    have k0 := cl3 HK1.out 0 (by simp)
    have k1 := cl3 HK1.out 1 (by simp)
    have k2 := cl3 HK1.out 2 (by simp)
    have f0 := fz3 HJ1.out 0
    have f1 := fz3 HJ1.out 1
    have f2 := fz3 HJ1.out 2
    have j0 := cl3 HJ1.out 0 (by simp)
    have j1 := cl3 HJ1.out 1 (by simp)
    have j2 := cl3 HJ1.out 2 (by simp)
    simp only [List.getElem_toArray, List.getElem_cons_succ, List.getElem_cons_zero] at k0 k1 k2 j0 j1 j2
    go_wp2_with fail
    have HK9 := set3 HJ1.out rfl (.slice none 0 0) (.int .i64 0) (.int .i64 0)
    refine bodyPost_ret (results_ct rfl _ _ w.heap.size _ rfl (run_loadVar_row _ w.heap.size _ _ _ (0, 0) _ HK9 Tryz.underlying90 rfl (by kernel_rfl))) rfl ?_
    exact FrPost.no HNo.out (below3 HB1.out (Nat.le_refl _) _ _ _) _ _ _ _ _
end Go.Proofs.YtahigmjpeicemaaGreatDoor

/- What the reference's Read guesses: pure. -/
namespace Go.Proofs.YtahigmjpeicemaaGreatDoor
open Go.RowKit Go.Shelf

def gF : Nat → List UInt8 → Option (List Fc)
  | 0, _ => some []
  | k + 1, b => match rdF b with
    | none => none
    | some (f, r) => (gF k r).map (f :: ·)
theorem gF_bd : ∀ (k : Nat) (b : List UInt8) (fs : List Fc), gF k b = some fs → ∀ f ∈ fs, FcB f
  | 0, _, fs, h => by simp [gF] at h; subst h; simp
  | k + 1, b, fs, h => by
    rw [gF] at h
    cases hr : rdF b with
    | none => rw [hr] at h; cases h
    | some q =>
      obtain ⟨g, r⟩ := q
      rw [hr] at h
      simp only [Option.map_eq_some_iff] at h
      obtain ⟨gs, h1, rfl⟩ := h
      intro f hf
      rcases List.mem_cons.1 hf with rfl | hf
      · exact rdF_bd hr
      · exact gF_bd k r gs h1 f hf
theorem gF_wr : ∀ (fs : List Fc), fs.all mayP = true → (∀ f ∈ fs, FcB f) → gF fs.length (fs.flatMap wrF) = some fs
  | [], _, _ => rfl
  | f :: fs, ha, hb => by
    simp only [List.all_cons, Bool.and_eq_true] at ha
    rw [List.length_cons, List.flatMap_cons, gF, rdF_wrF f _ (mayP_4 ha.1) (hb f (List.mem_cons_self ..))]
    simp only
    rw [gF_wr fs ha.2 (fun g hg => hb g (List.mem_cons_of_mem _ hg))]
    rfl
def isA (b : List UInt8) : Prop := b.length = 9 ∧ b[0]? = some 2
def isB (b : List UInt8) : Prop := 1 < b.length ∧ b[0]? = some 1
instance (b : List UInt8) : Decidable (isA b) := by unfold isA; infer_instance
instance (b : List UInt8) : Decidable (isB b) := by unfold isB; infer_instance
def cntB (b : List UInt8) : Nat := min (rsF (b.drop 1) 0 0).1 17
def g2F (b : List UInt8) : Option (List Fc × Int) :=
  if isA b then some ([], (rnF (b.drop 1)).1)
  else if isB b then (gF (cntB b) (b.drop (1 + (rsF (b.drop 1) 0 0).2.1))).map fun fs => (fs, -1)
  else some ([], -1)
theorem sh_pos9 (n : Nat) : 1 ≤ (sh n).length := by
  rw [sh]
  by_cases h : n < 128
  · rw [if_pos h]; simp
  · rw [if_neg h]; simp
theorem g2_of {b : List UInt8} {fs : List Fc} {m : Int} (h : rdR b = some (fs, m)) : g2F b = some (fs, m) := by
  obtain ⟨hr, hb, hw⟩ := rdR_some h
  obtain ⟨h1, h2⟩ := rightR_all hr
  subst hw
  unfold wrR
  unfold rightR at hr
  by_cases e : fs.length = 0
  · rw [if_pos e] at hr ⊢
    obtain ⟨a, c⟩ := isTm_iff.1 hr
    have := rnF_nb m (by omega) (by omega) []
    rw [List.append_nil] at this
    have hA : isA (2 :: nb m) := ⟨by simp [nb_len], rfl⟩
    unfold g2F
    rw [if_pos hA, List.length_eq_zero_iff.1 e]
    simp only [List.drop_succ_cons, List.drop_zero]
    rw [this]
  · rw [if_neg e] at hr ⊢
    simp only [Bool.and_eq_true, beq_iff_eq] at hr
    have hs := rsF_sh fs.length (fs.flatMap wrF) 0 0 (by simp) (by simp; omega) (by simp)
    simp only [Nat.zero_add, Nat.pow_zero, Nat.one_mul] at hs
    have hA : ¬ isA (1 :: (sh fs.length ++ fs.flatMap wrF)) := by
      intro h9
      have := h9.2
      simp at this
    have hB : isB (1 :: (sh fs.length ++ fs.flatMap wrF)) := ⟨by have := sh_pos9 fs.length; simp; omega, rfl⟩
    unfold g2F cntB
    rw [if_neg hA, if_pos hB]
    simp only [List.drop_succ_cons, List.drop_zero]
    rw [hs]
    simp only
    rw [show min fs.length 17 = fs.length by omega, show 1 + (sh fs.length).length = (sh fs.length).length + 1 by omega, List.drop_succ_cons, List.drop_left, gF_wr fs h2 hb, hr.1.1]
    rfl
theorem g2_none {b : List UInt8} (h : g2F b = none) : rdR b = none := by
  cases e : rdR b with
  | none => rfl
  | some q => rw [g2_of (fs := q.1) (m := q.2) e] at h; cases h
theorem g2_bad {b : List UInt8} {fs : List Fc} {m : Int} (h : g2F b = some (fs, m)) (hn : ¬ (rightR fs m = true ∧ wrR fs m = b)) : rdR b = none := by
  cases e : rdR b with
  | none => rfl
  | some q =>
    obtain ⟨h1, _, h3⟩ := rdR_some (fs := q.1) (m := q.2) e
    rw [g2_of (fs := q.1) (m := q.2) e] at h
    cases h
    exact absurd ⟨h1, h3⟩ hn
theorem g2_bd {b : List UInt8} {fs : List Fc} {m : Int} (h : g2F b = some (fs, m)) : ∀ f ∈ fs, FcB f := by
  unfold g2F at h
  by_cases hA : isA b
  · rw [if_pos hA] at h; cases h; simp
  · rw [if_neg hA] at h
    by_cases hB : isB b
    · rw [if_pos hB, Option.map_eq_some_iff] at h
      obtain ⟨gs, h1, h2⟩ := h
      cases h2
      exact gF_bd _ _ _ h1
    · rw [if_neg hB] at h; cases h; simp
theorem g2_good {b : List UInt8} {fs : List Fc} {m : Int} (h : g2F b = some (fs, m)) (h1 : rightR fs m = true) (h2 : wrR fs m = b) : rdR b = some (fs, m) := rdR_iff.2 ⟨h1, g2_bd h, h2⟩
theorem g2_m {b : List UInt8} {fs : List Fc} {m : Int} (h : g2F b = some (fs, m)) : -9223372036854775808 ≤ m ∧ m ≤ 9223372036854775807 := by
  unfold g2F at h
  by_cases hA : isA b
  · rw [if_pos hA] at h; cases h; exact rnF_bd _
  · rw [if_neg hA] at h
    by_cases hB : isB b
    · rw [if_pos hB, Option.map_eq_some_iff] at h
      obtain ⟨gs, h1, h2⟩ := h
      cases h2
      simp
    · rw [if_neg hB] at h; cases h; simp
theorem rdx_no {w : World} {b : List UInt8} {w' : World} (h : rdR b = none) (hb : Below w.heap.size w w') : RdW w b (.returned (.tuple #[.agg #[.slice none 0 0, .int .i64 0], .int .i64 90])) w' := by
  have h1 : rdE b = 90 := by unfold rdE; rw [h]; rfl
  have h2 : rdV b = ([], 0) := by unfold rdV; rw [h]; rfl
  exact ⟨hb, ⟨.slice none 0 0, [], 0⟩, by rw [h1]; rfl, rc_nil _ _ (by simp) (by simp), fun B _ => rc_nil _ _ (by simp) (by simp), by rw [h2]; rfl, by rw [h2]⟩
theorem rdx_yes {b : List UInt8} {fs : List Fc} {m : Int} (h : rdR b = some (fs, m)) : rdE b = 0 ∧ rdV b = (fs, m) := by
  unfold rdE rdV; rw [h]; exact ⟨rfl, rfl⟩
end Go.Proofs.YtahigmjpeicemaaGreatDoor
