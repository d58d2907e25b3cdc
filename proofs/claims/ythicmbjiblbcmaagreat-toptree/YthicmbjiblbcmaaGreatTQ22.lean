/- MG14, joined. -/
import Derived.Test.YthicmbjiblbcmaaGreatTQ21
import Derived.Test.YthicmbjiblbcmaaGreatTQ34
import Derived.Deep.LoopGhost
/- The contract of All. -/
namespace Go.Proofs.YthicmbjiblbcmaaGreat
open Go.RowKit

set_option maxRecDepth 100000 in
set_option maxHeartbeats 4000000 in
theorem all_some (v : Value) (rs : List (List En)) (w : World) (hR : RReads w v rs) (hl1 : rs.length ≤ 10000) (hl2 : ∀ r ∈ rs, r.length ≤ 100000) (hl3 : ∀ r ∈ rs, ∀ x ∈ r, x.1.length ≤ 100000) :
    Calls Tryz.prog 14 #[v] w (AlPost rs w) := by
  have HNW : Hid (∀ W, Below w.heap.size w W → Calls Tryz.prog 23 #[v] W (NwPost rs W)) := fun W hW => new_any v rs W (hR.below hW) hl1 hl2 hl3
  have HCN : Hid _ := seq_cn (rReads_cn hR)
  have HSL : Hid ((seqF rs).length ≤ 1000000000) := by have := seq_len hl2; unfold Hid; omega
  obtain ⟨av, cv, rfl, _⟩ := hR
  clear hl1 hl2 hl3
  go_enter Tryz.func14, Tryz.ntmps14
  go_wp2_with fail
  refine (HNW.out _ (Below.refl _ _)).mono ?_
  rintro e w1 ⟨hb1, ⟨hne, rfl⟩ | ⟨hz, h, hh, rfl, hs⟩⟩
  · have HB1 : Hid (Below w.heap.size w w1) := hb1
    have hb0 : (rowsF rs == 0) = false := by simp [hne]
    have HZ : Hid (rowsF rs ≠ 0) := hne
    have HEnd : Hid (AlPost rs w (.returned (.tuple #[.slice none 0 0, .int .i64 (rowsF rs)])) w1) := ⟨HB1.out, .inl ⟨HZ.out, rfl⟩⟩
    clear hne HNW
    generalize rowsF rs = rr at *
    go_wp2_with fail
    go_ret2
    exact HEnd.out
  · have HB1 : Hid (Below w.heap.size w w1) := hb1
    have HS1 : Hid _ := hs
    have HZR : Hid (rowsF rs = 0) := hz
    clear hb1 hs hz HNW
    go_wp2_with fail
    refine (next_q w.heap.size hh h (seqF rs) _ HS1.out).mono ?_
    rintro e w2 ⟨hf2, hz2, sa, sn, sc, a, r, ok, rfl, hq2⟩
    have HI0 : Hid (AlI rs w hh h w2.heap.size [] (seqF rs) [] (.slice none 0 0) (.slice sa sn sc) a ok (w2.alloc (.cells #[.slice sa sn sc, .int .u64 a.c, .bool a.o, .int .i64 (hi a.s), .int .u64 (Go.Proofs.YthicmbjiblbcmaaGreat.lo a.s), .int .i64 a.mn, .int .i64 a.mx] 56))) := by
      have hb := (Below.refl w2.heap.size w2).alloc (Nat.le_refl _) (.cells #[.slice sa sn sc, .int .u64 a.c, .bool a.o, .int .i64 (hi a.s), .int .u64 (Go.Proofs.YthicmbjiblbcmaaGreat.lo a.s), .int .i64 a.mn, .int .i64 a.mx] 56)
      have hlo : w.heap.size ≤ hh := by
        obtain ⟨P, h1, _⟩ := HS1.out.m
        have := h1.h1; have := h1.h2; omega
      exact ⟨rfl, ⟨World.ownsRow_nil _ _ _ _, fun x hx => (by cases hx), rfl, fun x hx => (by cases hx)⟩, hq2.below hb, heap_alloc_new _ _, hz2, (HB1.out.trans hf2.b).trans (hb.mono (by omega)), hlo, Nat.le_trans hz2 hb.size⟩
    have HZ2 : Hid _ := hz2
    clear hf2 hz2 hq2
    unfold env
    go_wp2_with fail
    obtain ⟨b0, Hb0⟩ := hid_ex w2.heap.size
    obtain ⟨wz, Hwz⟩ := hid_ex (w2.alloc (.cells #[.slice sa sn sc, .int .u64 a.c, .bool a.o, .int .i64 (hi a.s), .int .u64 (Go.Proofs.YthicmbjiblbcmaaGreat.lo a.s), .int .i64 a.mn, .int .i64 a.mx] 56))
    rw [← Hwz.out] at HI0 ⊢
    rw [← Hb0.out] at HI0 ⊢
    clear Hwz Hb0 HZ2
    go_loopg [6, 7, 9] (seqF rs).length (fun n al bx okv wr => ∃ (D T : List Tg) (xs : List Ev) (b : Nat) (sa : Option Addr) (sn sc : Nat) (a : Ag) (ok : Bool), bx = .pointer (some ⟨b, 0, none⟩) ∧ okv = .bool ok ∧ Hid (T.length = n) ∧ Hid (al.ownBlock ≠ some b) ∧ Hid (AlI rs w hh h b D T xs al (.slice sa sn sc) a ok wr))
    case atStart => exact ⟨[], seqF rs, [], b0, sa, sn, sc, a, ok, rfl, rfl, rfl, fun h => (by simp [Value.ownBlock] at h), HI0⟩
    case round =>
      clear HI0
      obtain ⟨D, T, xs, b, sa0, sn0, sc0, a, ok, rfl, rfl, HN, HNB, HI⟩ := hrel
      cases T with
      | nil =>
        have hq := HI.out.q
        obtain ⟨rfl, _⟩ := hq
        have HEnd : Hid (AlPost rs w (.returned (.tuple #[u6, .int .i64 0])) wr) := by
          have hs := HI.out.s
          rw [List.append_nil] at hs
          refine ⟨HI.out.b, .inr ⟨HZR.out, u6, xs, rfl, ⟨own_mono HI.out.e.r HI.out.z.1, HI.out.e.k⟩, ?_, HI.out.e.c⟩⟩
          unfold allF
          rw [hs]; exact HI.out.e.m
        go_wp2_with fail
        go_ret2
        exact HEnd.out
      | cons t T =>
        obtain ⟨rfl, rfl, hs0, ho0⟩ := HI.out.q
        have HS0 : Hid (HS wr w.heap.size hh h T) := hs0
        have HO : Hid (Own wr w.heap.size (.slice sa0 sn0 sc0) t.1.1) := ho0
        have HE : Hid (AlE w.heap.size hh u6 xs (grpG D) wr) := HI.out.e
        have HXB : Hid (wr.heap[b]? = some (.cells #[.slice sa0 sn0 sc0, .int .u64 t.2.c, .bool t.2.o, .int .i64 (hi t.2.s), .int .u64 (lo t.2.s), .int .i64 t.2.mn, .int .i64 t.2.mx] 56)) := HI.out.x
        have HZ : Hid (w.heap.size ≤ hh ∧ hh ≤ wr.heap.size) := HI.out.z
        have HB : Hid (Below w.heap.size w wr) := HI.out.b
        have HSQ : Hid (seqF rs = D ++ t :: T) := HI.out.s
        have HCT : Hid (CnOk t.2) := HCN.out t (by rw [HSQ.out]; simp)
        have hxn : xs.length ≤ 1000000000 := by
          have h1 := congrArg List.length HI.out.e.m
          have h2 := grpG_len D
          have h3 := congrArg List.length HSQ.out
          have h4 := HSL.out
          simp at h1 h3
          omega
        clear hs0 ho0 HI
        obtain ⟨aa, cc, hu6⟩ := row_form HE.out.r
        subst hu6
        rcases Nat.eq_zero_or_pos xs.length with hx0 | hx0
        · obtain rfl : xs = [] := List.length_eq_zero_iff.1 hx0
          clear hx0
          have HNEW : Hid (addG (grpG D) t = grpG D ++ [(t.1.1, t.2)]) := addG_new (fun h0 => by
            have h1 := congrArg List.length HE.out.m
            simp at h1
            omega)
          simp only [List.length_nil]
          go_wp2_with fail
          go_quiet (fail)
          obtain ⟨wd, Hwd⟩ := hid_ex (wr.drewN nq)
          have hbd : Below wr.heap.size wr wd := by rw [Hwd.out]; exact below_drewN (Below.refl _ _) nq
          rw [← Hwd.out]
          clear Hwd
          have HEd : Hid (AlE w.heap.size hh (.slice aa 0 cc) ([] : List Ev) (grpG D) wd) := HE.out.below hbd
          have HS0d : Hid (HS wd w.heap.size hh h T) := HS0.out.below hbd
          have HOd : Hid (Own wd w.heap.size (.slice sa0 sn0 sc0) t.1.1) := HO.out.below hbd
          have HXBd : Hid (wd.heap[b]? = some (.cells #[.slice sa0 sn0 sc0, .int .u64 t.2.c, .bool t.2.o, .int .i64 (hi t.2.s), .int .u64 (lo t.2.s), .int .i64 t.2.mn, .int .i64 t.2.mx] 56)) := (hbd.block b (Array.getElem?_eq_some_iff.1 HXB.out).1).trans HXB.out
          have HZd : Hid (w.heap.size ≤ hh ∧ hh ≤ wd.heap.size) := ⟨HZ.out.1, Nat.le_trans HZ.out.2 hbd.size⟩
          have HBd : Hid (Below w.heap.size w wd) := HB.out.trans (hbd.mono HB.out.size)
          clear hbd HE HS0 HO HXB HB
          obtain ⟨i0, hinf, hz0, hz1, hz2⟩ := info_parts infoEn
          obtain ⟨v5, w5, hr5, hown5, hg5, _⟩ := run_append_own (P := Tryz.prog) (wd.alloc (.cells #[.slice sa0 sn0 sc0, .int .u64 t.2.c, .bool t.2.o, .int .i64 (hi t.2.s), .int .u64 (lo t.2.s), .int .i64 t.2.mn, .int .i64 t.2.mx] 56)) hh 31 31 56 i0 _ 7 72 Tryz.underlying31 hinf hz0 hz1 hz2 rfl (by decide) (.slice aa 0 cc) (0) (([] : List Ev).flatMap c7) (World.ownsRow.alloc HEd.out.r _) ⟨wd.heap.size, 0, none⟩ 1 1 (c7 ⟨.slice sa0 sn0 sc0, t.1.1, t.2⟩) rfl (news7 wd (c7 ⟨.slice sa0 sn0 sc0, t.1.1, t.2⟩)) (one7 _ rfl) (by unfold maxLen; omega) (by omega) (by have h9 := HZd.out.2; simp; omega)
          have HA := al_append (t := t) (kv := .slice sa0 sn0 sc0) HEd.out rfl HOd.out HCT.out hown5 hg5 HZd.out.2 HZd.out.1 HNB.out HXBd.out HS0d.out HBd.out
          rw [← HNEW.out, ← grpG_snoc] at HA
          obtain ⟨g5, cap5, hv5⟩ := Go.Joins.ownsRow_form hown5 (by omega)
          subst hv5
          obtain ⟨ha1, ha2, ha3, ha4, ha5, ha6⟩ := HA
          have HE5 : Hid _ := ha1
          have HS5 : Hid _ := ha2
          have HX5 : Hid (w5.heap[b]? = some (.cells #[.slice sa0 sn0 sc0, .int .u64 t.2.c, .bool t.2.o, .int .i64 (hi t.2.s), .int .u64 (lo t.2.s), .int .i64 t.2.mn, .int .i64 t.2.mx] 56)) := ha3
          have HB5 : Hid _ := ha4
          have HZ5 : Hid _ := ha5
          have HAL : Hid _ := ha6
          clear ha1 ha2 ha3 ha4 ha5 ha6 hown5 hg5 hinf hz0 hz1 hz2
          have d0 := (cell_row HXBd.out 0 (by simp)).1
          have d1 := (cell_row HXBd.out 1 (by simp)).1
          have d2 := (cell_row HXBd.out 2 (by simp)).1
          have d3 := (cell_row HXBd.out 3 (by simp)).1
          have d4 := (cell_row HXBd.out 4 (by simp)).1
          have d5 := (cell_row HXBd.out 5 (by simp)).1
          have d6 := (cell_row HXBd.out 6 (by simp)).1
          simp only [List.getElem_toArray, List.getElem_cons_zero, List.getElem_cons_succ] at d0 d1 d2 d3 d4 d5 d6
          go_wp2_with (at_builtin; refine stop_app _ _ _ rfl ?_)
          refine Stop.of ?_
          refine wpList_app_run rfl _ _ _ _ rfl rfl _ _ _ rfl rfl hr5 ?_
          clear d0 d1 d2 d3 d4 d5 d6
          have d0 := (cell_row HX5.out 0 (by simp)).1
          have d1 := (cell_row HX5.out 1 (by simp)).1
          have d2 := (cell_row HX5.out 2 (by simp)).1
          have d3 := (cell_row HX5.out 3 (by simp)).1
          have d4 := (cell_row HX5.out 4 (by simp)).1
          have d5 := (cell_row HX5.out 5 (by simp)).1
          have d6 := (cell_row HX5.out 6 (by simp)).1
          simp only [List.getElem_toArray, List.getElem_cons_zero, List.getElem_cons_succ] at d0 d1 d2 d3 d4 d5 d6
          obtain ⟨w6, HW6⟩ := hid_ex (w5.alloc (.cells #[.slice sa0 sn0 sc0, .int .u64 t.2.c, .bool t.2.o, .int .i64 (hi t.2.s), .int .u64 (lo t.2.s), .int .i64 t.2.mn, .int .i64 t.2.mx] 56))
          have hb6 : Below w5.heap.size w5 w6 := by rw [HW6.out]; exact (Below.refl _ _).alloc (Nat.le_refl _) _
          have HX6 : Hid (w6.heap[w5.heap.size]? = some (.cells #[.slice sa0 sn0 sc0, .int .u64 t.2.c, .bool t.2.o, .int .i64 (hi t.2.s), .int .u64 (lo t.2.s), .int .i64 t.2.mn, .int .i64 t.2.mx] 56)) := by rw [HW6.out]; exact heap_alloc_new _ _
          have HTL : Hid (∀ w7 W (sa : Option Addr) (sn sc : Nat) (a : Ag) (ok : Bool), Fr w.heap.size hh w6 w7 → hh ≤ w7.heap.size → NxQ w.heap.size hh h T (.slice sa sn sc) a ok w7 → StW w7 W w5.heap.size 0 #[.slice sa0 sn0 sc0, .int .u64 t.2.c, .bool t.2.o, .int .i64 (hi t.2.s), .int .u64 (lo t.2.s), .int .i64 t.2.mn, .int .i64 t.2.mx] 56 (c7 ⟨.slice sa sn sc, [], a⟩) → AlI rs w hh h w5.heap.size (D ++ [t]) T (([] : List Ev) ++ [⟨.slice sa0 sn0 sc0, t.1.1, t.2⟩]) (.slice (some ⟨g5, 0, none⟩) (0 + 1) cap5) (.slice sa sn sc) a ok W ∧ Value.ownBlock (.slice (some ⟨g5, 0, none⟩) (0 + 1) cap5) ≠ some w5.heap.size) := fun w7 W sa sn sc a ok hf7 hz7 hq7 hW => al_tail HSQ.out HE5.out HZ.out.1 HB5.out HZ5.out hb6 HX6.out hf7 hz7 hq7 rfl hW HAL.out
          have HS6 : Hid (HS w6 w.heap.size hh h T) := HS5.out.below hb6
          have HZ6 : Hid (hh ≤ w5.heap.size ∧ w5.heap.size < w6.heap.size) := ⟨HZ5.out, by rw [HW6.out]; simp⟩
          clear hb6
          go_wp2_with fail
          rw [← HW6.out]
          clear d0 d1 d2 d3 d4 d5 d6
          refine (next_q w.heap.size hh h T _ HS6.out).mono ?_
          rintro e w7 ⟨hf7, hz7, sa', sn', sc', a', r', ok', rfl, hq7⟩
          have HX7 : Hid (w7.heap[w5.heap.size]? = some (.cells #[.slice sa0 sn0 sc0, .int .u64 t.2.c, .bool t.2.o, .int .i64 (hi t.2.s), .int .u64 (lo t.2.s), .int .i64 t.2.mn, .int .i64 t.2.mx] 56)) := (hf7.h _ HZ6.out.1 HZ6.out.2).trans HX6.out
          have HF7 : Hid _ := hf7
          have HZ7 : Hid _ := hz7
          have HQ7 : Hid _ := hq7
          clear hf7 hz7 hq7
          unfold env
          go_wp2_with (refine stop_store 56 _ _ rfl ?_)
          refine Stop.of ?_
          refine wpList_storeN rfl _ _ _ rfl w5.heap.size 0 (c7 ⟨.slice sa' sn' sc', [], a'⟩) rfl rfl _ _ HX7.out (by rw [c7_len]; simp) (by kernel_rfl) (by kernel_rfl) ?_
          intro W hW
          have HNX : Hid _ := HTL.out w7 W sa' sn' sc' a' ok' HF7.out HZ7.out HQ7.out hW
          clear hW
          go_wp2_with fail
          go_roundg T.length
          case measure => have h9 := HN.out; simp at h9; omega
          case rel => exact ⟨D ++ [t], T, _, w5.heap.size, sa', sn', sc', a', ok', rfl, rfl, rfl, HNX.out.2, HNX.out.1⟩
        · obtain ⟨m, Hm⟩ : ∃ m, Hid (xs.length = m + 1) := ⟨xs.length - 1, by unfold Hid; omega⟩
          have hml : m < xs.length := by have := Hm.out; omega
          have hm9 : m ≤ 1000000000 := by omega
          obtain ⟨g, cc', hgf⟩ := Go.Joins.ownsRow_form HE.out.r hx0
          simp at hgf
          obtain ⟨rfl, rfl⟩ := hgf
          have hat := (show EOwn wr 0 (.slice (some ⟨g, 0, none⟩) xs.length cc) xs from ⟨own_mono HE.out.r (Nat.zero_le _), fun x hx => (HE.out.k x hx).mono (Nat.zero_le _)⟩).at
          obtain ⟨a', cap', hav, hcp1, hcp2, hat⟩ := hat
          simp at hav
          obtain ⟨rfl, rfl⟩ := hav
          obtain ⟨g', hgg, _, hgs, hcell⟩ := hat hx0
          simp at hgg
          subst hgg
          unfold maxLen at hcp2
          have c0 := (hcell m hml 0 (by decide)).1
          have c1 := (hcell m hml 1 (by decide)).1
          have c2 := (hcell m hml 2 (by decide)).1
          have c3 := (hcell m hml 3 (by decide)).1
          have c4 := (hcell m hml 4 (by decide)).1
          have c5 := (hcell m hml 5 (by decide)).1
          have c6 := (hcell m hml 6 (by decide)).1
          have HKY : Hid (Reads wr xs[m].kv xs[m].k) := (HE.out.k _ (List.getElem_mem hml)).reads
          have HCY : Hid (CnOk xs[m].a) := HE.out.c _ (List.getElem_mem hml)
          have HEL : Hid ((grpG D).length = m + 1) := by unfold Hid; rw [← HE.out.m]; simpa using Hm.out
          have HEM : Hid (∀ h0 : m < (grpG D).length, (grpG D)[m] = evE xs[m]) := fun h0 => by
            have e1 : (grpG D)[m] = (xs.map evE)[m]'(by simpa using hml) := by simp only [HE.out.m]
            rw [e1]; simp
          obtain ⟨ya, Hya⟩ := hid_ex xs[m].a
          obtain ⟨yk, Hyk⟩ := hid_ex xs[m].k
          obtain ⟨yv, Hyv⟩ := hid_ex xs[m].kv
          simp only [c7, List.getElem_cons_zero, List.getElem_cons_succ] at c0 c1 c2 c3 c4 c5 c6
          rw [← Hyv.out] at c0 HKY
          rw [← Hyk.out] at HKY
          rw [← Hya.out] at c1 c2 c3 c4 c5 c6 HCY
          rw [show 7 * m + 0 = m * 7 by omega] at c0
          rw [show 7 * m + 1 = m * 7 + 1 by omega] at c1
          rw [show 7 * m + 2 = m * 7 + 1 + 1 by omega] at c2
          rw [show 7 * m + 3 = m * 7 + 1 + 2 by omega] at c3
          rw [show 7 * m + 4 = m * 7 + 1 + 3 by omega] at c4
          rw [show 7 * m + 5 = m * 7 + 1 + 4 by omega] at c5
          rw [show 7 * m + 6 = m * 7 + 1 + 5 by omega] at c6
          obtain ⟨yka, ykc, hyf, _⟩ := HKY.out.form
          subst hyf
          have hz0 := (cell_row HXB.out 0 (by simp)).1
          simp only [List.getElem_toArray, List.getElem_cons_zero] at hz0
          rw [Hm.out] at HE HNB ⊢
          clear hat hcell hx0
          by_cases hke : yk = t.1.1
          · have hkd : decide (yk = t.1.1) = true := by simpa using hke
            have HKE : Hid (yk = t.1.1) := hke
            have HKD : Hid _ := hkd
            clear hke hkd
            go_wp2_with fail
            go_quiet (exact (equal_any _ _ yk t.1.1 _ (HKY.out.below (below_drewN (Below.refl _ _) _)) (HO.out.reads.below (below_drewN (Below.refl _ _) _))).mono (fun e w h => ⟨by rw [h.1, HKD.out], _, h.2⟩))
            obtain ⟨wd, Hwd⟩ := hid_ex (wr.drewN nq)
            have hbd : Below wr.heap.size wr wd := by rw [Hwd.out]; exact below_drewN (Below.refl _ _) nq
            rw [← Hwd.out]
            clear Hwd
            have HEd : Hid (AlE w.heap.size hh (.slice (some ⟨g, 0, none⟩) (m + 1) cc) xs (grpG D) wd) := HE.out.below hbd
            have HS0d : Hid (HS wd w.heap.size hh h T) := HS0.out.below hbd
            have HOd : Hid (Own wd w.heap.size (.slice sa0 sn0 sc0) t.1.1) := HO.out.below hbd
            have HXBd : Hid (wd.heap[b]? = some (.cells #[.slice sa0 sn0 sc0, .int .u64 t.2.c, .bool t.2.o, .int .i64 (hi t.2.s), .int .u64 (lo t.2.s), .int .i64 t.2.mn, .int .i64 t.2.mx] 56)) := (hbd.block b (Array.getElem?_eq_some_iff.1 HXB.out).1).trans HXB.out
            have HZd : Hid (w.heap.size ≤ hh ∧ hh ≤ wd.heap.size) := ⟨HZ.out.1, Nat.le_trans HZ.out.2 hbd.size⟩
            have HBd : Hid (Below w.heap.size w wd) := HB.out.trans (hbd.mono HB.out.size)
            have HCW : Hid (∀ o v, wr.cell? ⟨g, o, none⟩ = some v → wd.cell? ⟨g, o, none⟩ = some v) := fun o v q => (hbd.cell (cell_block q).1).trans q
            clear hbd HE HS0 HO HXB HB
            have HER : Hid (wd.ownsRow hh 56 7 (.slice (some ⟨g, 0, none⟩) (m + 1) cc) (m + 1) (xs.flatMap c7)) := by
              have h9 := HEd.out.r
              rw [Hm.out] at h9
              exact h9
            have hgl : g < wd.heap.size := (World.ownsRow.lt HEd.out.r g rfl).2
            have hbl : b < wd.heap.size := (Array.getElem?_eq_some_iff.1 HXBd.out).1
            have HCd : Hid (∀ o v, wr.cell? ⟨g, o, none⟩ = some v → wd.cell? ⟨g, o, none⟩ = some v) := HCW.out
            have k1 := HCd.out _ _ c1
            have k2 := HCd.out _ _ c2
            have k3 := HCd.out _ _ c3
            have k4 := HCd.out _ _ c4
            have k5 := HCd.out _ _ c5
            have k6 := HCd.out _ _ c6
            have z1 := (cell_row HXBd.out 1 (by simp)).1
            have z2 := (cell_row HXBd.out 2 (by simp)).1
            have z3 := (cell_row HXBd.out 3 (by simp)).1
            have z4 := (cell_row HXBd.out 4 (by simp)).1
            have z5 := (cell_row HXBd.out 5 (by simp)).1
            have z6 := (cell_row HXBd.out 6 (by simp)).1
            simp only [List.getElem_toArray, List.getElem_cons_zero, List.getElem_cons_succ] at z1 z2 z3 z4 z5 z6
            obtain ⟨cur, hcur⟩ := row_block HER.out
            have HFT : Hid (m * 7 + 1 + 6 ≤ cur.size) := by
              rcases HER.out.2 with ⟨q, _⟩ | ⟨g', c', cur0, q, _, hw, hc1, _, hs, _⟩
              · simp at q
              · simp at q
                obtain ⟨rfl, rfl⟩ := q
                rw [hcur] at hw
                simp at hw
                subst hw
                unfold Hid
                omega
            have HCU : Hid _ := hcur
            have hpp : ¬ ((m : Int) + 1 ≤ (m : Int)) := by omega
            clear hcur c0 c1 c2 c3 c4 c5 c6 hz0 HCW
            go_wp2_with fail
            refine wp_region_noPanic ?_
            refine wp_region_S 12 (fun _ => True) (fun w' => w'.cell? ⟨g, m * 7 + 1, none⟩ = some (.int .u64 ya.c) ∧ w'.cell? ⟨g, m * 7 + 1 + 1, none⟩ = some (.bool ya.o) ∧ w'.cell? ⟨g, m * 7 + 1 + 2, none⟩ = some (.int .i64 (hi ya.s)) ∧ w'.cell? ⟨g, m * 7 + 1 + 3, none⟩ = some (.int .u64 (lo ya.s)) ∧ w'.cell? ⟨g, m * 7 + 1 + 4, none⟩ = some (.int .i64 ya.mn) ∧ w'.cell? ⟨g, m * 7 + 1 + 5, none⟩ = some (.int .i64 ya.mx) ∧ w'.cell? ⟨b, 1, none⟩ = some (.int .u64 t.2.c) ∧ w'.cell? ⟨b, 2, none⟩ = some (.bool t.2.o) ∧ w'.cell? ⟨b, 3, none⟩ = some (.int .i64 (hi t.2.s)) ∧ w'.cell? ⟨b, 4, none⟩ = some (.int .u64 (lo t.2.s)) ∧ w'.cell? ⟨b, 5, none⟩ = some (.int .i64 t.2.mn) ∧ w'.cell? ⟨b, 6, none⟩ = some (.int .i64 t.2.mx)) (by kernel_rfl) ?_ ?_ (fun hHeld => ?_)
            · trivial
            · exact ⟨k1, k2, k3, k4, k5, k6, z1, z2, z3, z4, z5, z6⟩
            refine wpAnyS_take (i := 0) (v := .slice (some ⟨g, 0, none⟩) (m + 1) cc) _ rfl (by kernel_rfl) (by kernel_rfl) (by kernel_rfl) (by kernel_rfl) (by kernel_rfl) rfl (fun _ _ _ h => h) (Or.inl ⟨by rfl, ?_⟩) hHeld (fun hHeld => ?_)
            · (intro w1 hSw; have hSw := hSw.1; (try dsimp only at hSw); go_simp)
            simp only [List.getElem_toArray, List.getElem_cons_zero, Act.put, List.setIfInBounds_toArray, List.set_cons_zero, List.set_cons_succ]
            refine wpAnyS_take (i := 1) (v := .int .i64 (m : Int)) _ rfl (by kernel_rfl) (by kernel_rfl) (by kernel_rfl) (by kernel_rfl) (by kernel_rfl) rfl (fun _ _ _ h => h) (Or.inl ⟨by rfl, ?_⟩) hHeld (fun hHeld => ?_)
            · (intro w1 hSw; have hSw := hSw.1; (try dsimp only at hSw); go_simp)
            simp only [List.getElem_toArray, List.getElem_cons_succ, List.getElem_cons_zero, Act.put, List.setIfInBounds_toArray, List.set_cons_zero, List.set_cons_succ]
            refine wpAnyS_take (i := 2) (v := .slice (some ⟨g, 0, none⟩) (m + 1) cc) _ rfl (by kernel_rfl) (by kernel_rfl) (by kernel_rfl) (by kernel_rfl) (by kernel_rfl) rfl (fun _ _ _ h => h) (Or.inl ⟨by rfl, ?_⟩) hHeld (fun hHeld => ?_)
            · (intro w1 hSw; have hSw := hSw.1; (try dsimp only at hSw); go_simp)
            simp only [List.getElem_toArray, List.getElem_cons_succ, List.getElem_cons_zero, Act.put, List.setIfInBounds_toArray, List.set_cons_zero, List.set_cons_succ]
            refine wpAnyS_take (i := 3) (v := .int .i64 (m : Int)) _ rfl (by kernel_rfl) (by kernel_rfl) (by kernel_rfl) (by kernel_rfl) (by kernel_rfl) rfl (fun _ _ _ h => h) (Or.inl ⟨by rfl, ?_⟩) hHeld (fun hHeld => ?_)
            · (intro w1 hSw; have hSw := hSw.1; (try dsimp only at hSw); go_simp)
            simp only [List.getElem_toArray, List.getElem_cons_succ, List.getElem_cons_zero, Act.put, List.setIfInBounds_toArray, List.set_cons_zero, List.set_cons_succ]
            refine wpAnyS_take (i := 4) (v := .pointer (some ⟨g, m * 7, none⟩)) _ rfl (by kernel_rfl) (by kernel_rfl) (by kernel_rfl) (by kernel_rfl) (by kernel_rfl) rfl (fun _ _ _ h => h) (Or.inl ⟨by rfl, ?_⟩) hHeld (fun hHeld => ?_)
            · (intro w1 hSw; have hSw := hSw.1; (try dsimp only at hSw); go_simp)
            simp only [List.getElem_toArray, List.getElem_cons_succ, List.getElem_cons_zero, Act.put, List.setIfInBounds_toArray, List.set_cons_zero, List.set_cons_succ]
            refine wpAnyS_take (i := 5) (v := .pointer (some ⟨g, m * 7 + 1, none⟩)) _ rfl (by kernel_rfl) (by kernel_rfl) (by kernel_rfl) (by kernel_rfl) (by kernel_rfl) rfl (fun _ _ _ h => h) (Or.inl ⟨by rfl, ?_⟩) hHeld (fun hHeld => ?_)
            · (intro w1 hSw; have hSw := hSw.1; (try dsimp only at hSw); go_simp)
            simp only [List.getElem_toArray, List.getElem_cons_succ, List.getElem_cons_zero, Act.put, List.setIfInBounds_toArray, List.set_cons_zero, List.set_cons_succ]
            refine wpAnyS_take (i := 6) (v := .agg #[.int .u64 ya.c, .bool ya.o, .int .i64 (hi ya.s), .int .u64 (lo ya.s), .int .i64 ya.mn, .int .i64 ya.mx]) true rfl (by kernel_rfl) (by kernel_rfl) (by kernel_rfl) (by kernel_rfl) (by kernel_rfl) (by kernel_rfl) (fun _ _ _ h => h) (Or.inl ⟨by rfl, ?_⟩) hHeld (fun hHeld => ?_)
            · (intro w1 hSw; have hSw2 := hSw.2 rfl; have hSw := hSw.1; (try dsimp only at hSw hSw2); go_simp)
            simp only [List.getElem_toArray, List.getElem_cons_succ, List.getElem_cons_zero, Act.put, List.setIfInBounds_toArray, List.set_cons_zero, List.set_cons_succ]
            refine wpAnyS_take (i := 7) (v := .pointer (some ⟨b, 1, none⟩)) _ rfl (by kernel_rfl) (by kernel_rfl) (by kernel_rfl) (by kernel_rfl) (by kernel_rfl) rfl (fun _ _ _ h => h) (Or.inl ⟨by rfl, ?_⟩) hHeld (fun hHeld => ?_)
            · (intro w1 hSw; have hSw := hSw.1; (try dsimp only at hSw); go_simp)
            simp only [List.getElem_toArray, List.getElem_cons_succ, List.getElem_cons_zero, Act.put, List.setIfInBounds_toArray, List.set_cons_zero, List.set_cons_succ]
            refine wpAnyS_take (i := 8) (v := .agg #[.int .u64 t.2.c, .bool t.2.o, .int .i64 (hi t.2.s), .int .u64 (lo t.2.s), .int .i64 t.2.mn, .int .i64 t.2.mx]) true rfl (by kernel_rfl) (by kernel_rfl) (by kernel_rfl) (by kernel_rfl) (by kernel_rfl) (by kernel_rfl) (fun _ _ _ h => h) (Or.inl ⟨by rfl, ?_⟩) hHeld (fun hHeld => ?_)
            · (intro w1 hSw; have hSw2 := hSw.2 rfl; have hSw := hSw.1; (try dsimp only at hSw hSw2); go_simp)
            simp only [List.getElem_toArray, List.getElem_cons_succ, List.getElem_cons_zero, Act.put, List.setIfInBounds_toArray, List.set_cons_zero, List.set_cons_succ]
            refine wpAnyS_ready (i := 9) (by kernel_rfl) rfl (fun K hK => ?_)
            go_simp
            refine (merge_any ya t.2 HCY.out.1 HCY.out.2 HCT.out.1 HCT.out.2 _).mono ?_
            rintro e wm ⟨rfl, hbm0⟩
            have hbm : Below wd.heap.size wd wm := (Below.refl wd.heap.size wd).drew.trans hbm0
            go_simp
            refine hK.out _ _ ⟨?_, fun _ => ?_⟩ (fun hHeld => ?_)
            · trivial
            · exact ⟨(hbm.cell (p := ⟨g, _, none⟩) hgl).trans k1, (hbm.cell (p := ⟨g, _, none⟩) hgl).trans k2, (hbm.cell (p := ⟨g, _, none⟩) hgl).trans k3, (hbm.cell (p := ⟨g, _, none⟩) hgl).trans k4, (hbm.cell (p := ⟨g, _, none⟩) hgl).trans k5, (hbm.cell (p := ⟨g, _, none⟩) hgl).trans k6, (hbm.cell (p := ⟨b, _, none⟩) hbl).trans z1, (hbm.cell (p := ⟨b, _, none⟩) hbl).trans z2, (hbm.cell (p := ⟨b, _, none⟩) hbl).trans z3, (hbm.cell (p := ⟨b, _, none⟩) hbl).trans z4, (hbm.cell (p := ⟨b, _, none⟩) hbl).trans z5, (hbm.cell (p := ⟨b, _, none⟩) hbl).trans z6⟩
            clear hK K
            refine wpAnyS_take (i := 10) (v := .pointer (some ⟨g, m * 7, none⟩)) _ rfl (by kernel_rfl) (by kernel_rfl) (by kernel_rfl) (by kernel_rfl) (by kernel_rfl) rfl (fun _ _ _ h => h) (Or.inl ⟨by rfl, ?_⟩) hHeld (fun hHeld => ?_)
            · (intro w1 hSw; have hSw := hSw.1; (try dsimp only at hSw); go_simp)
            simp only [List.getElem_toArray, List.getElem_cons_succ, List.getElem_cons_zero, Act.put, List.setIfInBounds_toArray, List.set_cons_zero, List.set_cons_succ]
            refine wpAnyS_take (i := 11) (v := .pointer (some ⟨g, m * 7 + 1, none⟩)) _ rfl (by kernel_rfl) (by kernel_rfl) (by kernel_rfl) (by kernel_rfl) (by kernel_rfl) rfl (fun _ _ _ h => h) (Or.inl ⟨by rfl, ?_⟩) hHeld (fun hHeld => ?_)
            · (intro w1 hSw; have hSw := hSw.1; (try dsimp only at hSw); go_simp)
            simp only [List.getElem_toArray, List.getElem_cons_succ, List.getElem_cons_zero, Act.put, List.setIfInBounds_toArray, List.set_cons_zero, List.set_cons_succ]
            have HCM : Hid (wm.heap[g]? = some (.cells cur 56)) := (hbm.block g hgl).trans HCU.out
            refine wpAnyS_ready (i := 12) (by kernel_rfl) rfl (fun K hK => ?_)
            rw [if_pos (by rfl)]
            refine wp_storeN _ _ _ rfl g (m * 7 + 1) (a6 (mrg ya t.2)) rfl rfl cur _ HCM.out HFT.out (by kernel_rfl) (by kernel_rfl) (fun W0 hW0 => ?_)
            refine hK.out _ _ ⟨?_, fun hno => absurd hno (by decide)⟩ (fun hHeld => ?_)
            · trivial
            clear hK K
            refine wpAnyS_done (by kernel_rfl) ?_ _
            refine NoPanic.normal ?_
            rw [Hya.out] at hW0
            have HA := al_merge HEd.out Hm.out HCT.out (by rw [← Hyk.out]; exact HKE.out) hbm HCM.out hW0 HZd.out.1 HNB.out HXBd.out HS0d.out HBd.out
            rw [← grpG_snoc] at HA
            obtain ⟨ha1, ha2, ha3, ha4, ha5, ha6⟩ := HA
            have HE5 : Hid _ := ha1
            have HS5 : Hid _ := ha2
            have HX5 : Hid (W0.heap[b]? = some (.cells #[.slice sa0 sn0 sc0, .int .u64 t.2.c, .bool t.2.o, .int .i64 (hi t.2.s), .int .u64 (lo t.2.s), .int .i64 t.2.mn, .int .i64 t.2.mx] 56)) := ha3
            have HB5 : Hid _ := ha4
            have HZ5 : Hid _ := ha5
            have HAL : Hid _ := ha6
            clear ha1 ha2 ha3 ha4 ha5 ha6 hW0 hbm hbm0 k1 k2 k3 k4 k5 k6 z1 z2 z3 z4 z5 z6
            have d0 := (cell_row HX5.out 0 (by simp)).1
            have d1 := (cell_row HX5.out 1 (by simp)).1
            have d2 := (cell_row HX5.out 2 (by simp)).1
            have d3 := (cell_row HX5.out 3 (by simp)).1
            have d4 := (cell_row HX5.out 4 (by simp)).1
            have d5 := (cell_row HX5.out 5 (by simp)).1
            have d6 := (cell_row HX5.out 6 (by simp)).1
            simp only [List.getElem_toArray, List.getElem_cons_zero, List.getElem_cons_succ] at d0 d1 d2 d3 d4 d5 d6
            obtain ⟨w6, HW6⟩ := hid_ex (W0.alloc (.cells #[.slice sa0 sn0 sc0, .int .u64 t.2.c, .bool t.2.o, .int .i64 (hi t.2.s), .int .u64 (lo t.2.s), .int .i64 t.2.mn, .int .i64 t.2.mx] 56))
            have hb6 : Below W0.heap.size W0 w6 := by rw [HW6.out]; exact (Below.refl _ _).alloc (Nat.le_refl _) _
            have HX6 : Hid (w6.heap[W0.heap.size]? = some (.cells #[.slice sa0 sn0 sc0, .int .u64 t.2.c, .bool t.2.o, .int .i64 (hi t.2.s), .int .u64 (lo t.2.s), .int .i64 t.2.mn, .int .i64 t.2.mx] 56)) := by rw [HW6.out]; exact heap_alloc_new _ _
            have HTL : Hid (∀ w7 W (sa : Option Addr) (sn sc : Nat) (a : Ag) (ok : Bool), Fr w.heap.size hh w6 w7 → hh ≤ w7.heap.size → NxQ w.heap.size hh h T (.slice sa sn sc) a ok w7 → StW w7 W W0.heap.size 0 #[.slice sa0 sn0 sc0, .int .u64 t.2.c, .bool t.2.o, .int .i64 (hi t.2.s), .int .u64 (lo t.2.s), .int .i64 t.2.mn, .int .i64 t.2.mx] 56 (c7 ⟨.slice sa sn sc, [], a⟩) → AlI rs w hh h W0.heap.size (D ++ [t]) T (xs.set m ⟨xs[m].kv, xs[m].k, mrg xs[m].a t.2⟩) (.slice (some ⟨g, 0, none⟩) (m + 1) cc) (.slice sa sn sc) a ok W ∧ Value.ownBlock (.slice (some ⟨g, 0, none⟩) (m + 1) cc) ≠ some W0.heap.size) := fun w7 W sa sn sc a ok hf7 hz7 hq7 hW => al_tail HSQ.out HE5.out HZ.out.1 HB5.out HZ5.out hb6 HX6.out hf7 hz7 hq7 rfl hW HAL.out
            have HS6 : Hid (HS w6 w.heap.size hh h T) := HS5.out.below hb6
            have HZ6 : Hid (hh ≤ W0.heap.size ∧ W0.heap.size < w6.heap.size) := ⟨HZ5.out, by rw [HW6.out]; simp⟩
            clear hb6
            go_wp2_with fail
            rw [← HW6.out]
            clear d0 d1 d2 d3 d4 d5 d6
            refine (next_q w.heap.size hh h T _ HS6.out).mono ?_
            rintro e w7 ⟨hf7, hz7, sa', sn', sc', a', r', ok', rfl, hq7⟩
            have HX7 : Hid (w7.heap[W0.heap.size]? = some (.cells #[.slice sa0 sn0 sc0, .int .u64 t.2.c, .bool t.2.o, .int .i64 (hi t.2.s), .int .u64 (lo t.2.s), .int .i64 t.2.mn, .int .i64 t.2.mx] 56)) := (hf7.h _ HZ6.out.1 HZ6.out.2).trans HX6.out
            have HF7 : Hid _ := hf7
            have HZ7 : Hid _ := hz7
            have HQ7 : Hid _ := hq7
            clear hf7 hz7 hq7
            unfold env
            go_wp2_with (refine stop_store 56 _ _ rfl ?_)
            refine Stop.of ?_
            refine wpList_storeN rfl _ _ _ rfl W0.heap.size 0 (c7 ⟨.slice sa' sn' sc', [], a'⟩) rfl rfl _ _ HX7.out (by rw [c7_len]; simp) (by kernel_rfl) (by kernel_rfl) ?_
            intro W hW
            have HNX : Hid _ := HTL.out w7 W sa' sn' sc' a' ok' HF7.out HZ7.out HQ7.out hW
            clear hW
            go_wp2_with fail
            go_roundg T.length
            case measure => have h9 := HN.out; simp at h9; omega
            case rel => exact ⟨D ++ [t], T, _, W0.heap.size, sa', sn', sc', a', ok', rfl, rfl, rfl, HNX.out.2, HNX.out.1⟩
          · have hkd : decide (yk = t.1.1) = false := by simpa using hke
            have HKD : Hid _ := hkd
            have HNEW : Hid (addG (grpG D) t = grpG D ++ [(t.1.1, t.2)]) := addG_new (fun h0 h1 => hke (by
              have e1 : (grpG D).length - 1 = m := by have := HEL.out; omega
              simp only [e1] at h1
              rw [HEM.out (by have := HEL.out; omega)] at h1
              rw [Hyk.out]; exact h1))
            clear hke hkd
            go_wp2_with fail
            go_quiet (exact (equal_any _ _ yk t.1.1 _ (HKY.out.below (below_drewN (Below.refl _ _) _)) (HO.out.reads.below (below_drewN (Below.refl _ _) _))).mono (fun e w h => ⟨by rw [h.1, HKD.out], _, h.2⟩))
            clear c0 c1 c2 c3 c4 c5 c6 hz0
            obtain ⟨wd, Hwd⟩ := hid_ex (wr.drewN nq)
            have hbd : Below wr.heap.size wr wd := by rw [Hwd.out]; exact below_drewN (Below.refl _ _) nq
            rw [← Hwd.out]
            clear Hwd
            have HEd : Hid (AlE w.heap.size hh (.slice (some ⟨g, 0, none⟩) (m + 1) cc) xs (grpG D) wd) := HE.out.below hbd
            have HS0d : Hid (HS wd w.heap.size hh h T) := HS0.out.below hbd
            have HOd : Hid (Own wd w.heap.size (.slice sa0 sn0 sc0) t.1.1) := HO.out.below hbd
            have HXBd : Hid (wd.heap[b]? = some (.cells #[.slice sa0 sn0 sc0, .int .u64 t.2.c, .bool t.2.o, .int .i64 (hi t.2.s), .int .u64 (lo t.2.s), .int .i64 t.2.mn, .int .i64 t.2.mx] 56)) := (hbd.block b (Array.getElem?_eq_some_iff.1 HXB.out).1).trans HXB.out
            have HZd : Hid (w.heap.size ≤ hh ∧ hh ≤ wd.heap.size) := ⟨HZ.out.1, Nat.le_trans HZ.out.2 hbd.size⟩
            have HBd : Hid (Below w.heap.size w wd) := HB.out.trans (hbd.mono HB.out.size)
            clear hbd HE HS0 HO HXB HB
            have HER : Hid (wd.ownsRow hh 56 7 (.slice (some ⟨g, 0, none⟩) (m + 1) cc) (m + 1) (xs.flatMap c7)) := by
              have h9 := HEd.out.r
              rw [Hm.out] at h9
              exact h9
            obtain ⟨i0, hinf, hz0, hz1, hz2⟩ := info_parts infoEn
            obtain ⟨v5, w5, hr5, hown5, hg5, _⟩ := run_append_own (P := Tryz.prog) (wd.alloc (.cells #[.slice sa0 sn0 sc0, .int .u64 t.2.c, .bool t.2.o, .int .i64 (hi t.2.s), .int .u64 (lo t.2.s), .int .i64 t.2.mn, .int .i64 t.2.mx] 56)) hh 31 31 56 i0 _ 7 72 Tryz.underlying31 hinf hz0 hz1 hz2 rfl (by decide) (.slice (some ⟨g, 0, none⟩) (m + 1) cc) (m + 1) (xs.flatMap c7) (World.ownsRow.alloc HER.out _) ⟨wd.heap.size, 0, none⟩ 1 1 (c7 ⟨.slice sa0 sn0 sc0, t.1.1, t.2⟩) rfl (news7 wd (c7 ⟨.slice sa0 sn0 sc0, t.1.1, t.2⟩)) (one7 _ rfl) (by unfold maxLen; omega) (by omega) (by have h9 := HZd.out.2; simp; omega)
            have HA := al_append (t := t) (kv := .slice sa0 sn0 sc0) HEd.out Hm.out HOd.out HCT.out hown5 hg5 HZd.out.2 HZd.out.1 HNB.out HXBd.out HS0d.out HBd.out
            rw [← HNEW.out, ← grpG_snoc] at HA
            obtain ⟨g5, cap5, hv5⟩ := Go.Joins.ownsRow_form hown5 (by omega)
            subst hv5
            obtain ⟨ha1, ha2, ha3, ha4, ha5, ha6⟩ := HA
            have HE5 : Hid _ := ha1
            have HS5 : Hid _ := ha2
            have HX5 : Hid (w5.heap[b]? = some (.cells #[.slice sa0 sn0 sc0, .int .u64 t.2.c, .bool t.2.o, .int .i64 (hi t.2.s), .int .u64 (lo t.2.s), .int .i64 t.2.mn, .int .i64 t.2.mx] 56)) := ha3
            have HB5 : Hid _ := ha4
            have HZ5 : Hid _ := ha5
            have HAL : Hid _ := ha6
            clear ha1 ha2 ha3 ha4 ha5 ha6 hown5 hg5 hinf hz0 hz1 hz2
            have d0 := (cell_row HXBd.out 0 (by simp)).1
            have d1 := (cell_row HXBd.out 1 (by simp)).1
            have d2 := (cell_row HXBd.out 2 (by simp)).1
            have d3 := (cell_row HXBd.out 3 (by simp)).1
            have d4 := (cell_row HXBd.out 4 (by simp)).1
            have d5 := (cell_row HXBd.out 5 (by simp)).1
            have d6 := (cell_row HXBd.out 6 (by simp)).1
            simp only [List.getElem_toArray, List.getElem_cons_zero, List.getElem_cons_succ] at d0 d1 d2 d3 d4 d5 d6
            go_wp2_with (at_builtin; refine stop_app _ _ _ rfl ?_)
            refine Stop.of ?_
            refine wpList_app_run rfl _ _ _ _ rfl rfl _ _ _ rfl rfl hr5 ?_
            clear d0 d1 d2 d3 d4 d5 d6
            have d0 := (cell_row HX5.out 0 (by simp)).1
            have d1 := (cell_row HX5.out 1 (by simp)).1
            have d2 := (cell_row HX5.out 2 (by simp)).1
            have d3 := (cell_row HX5.out 3 (by simp)).1
            have d4 := (cell_row HX5.out 4 (by simp)).1
            have d5 := (cell_row HX5.out 5 (by simp)).1
            have d6 := (cell_row HX5.out 6 (by simp)).1
            simp only [List.getElem_toArray, List.getElem_cons_zero, List.getElem_cons_succ] at d0 d1 d2 d3 d4 d5 d6
            obtain ⟨w6, HW6⟩ := hid_ex (w5.alloc (.cells #[.slice sa0 sn0 sc0, .int .u64 t.2.c, .bool t.2.o, .int .i64 (hi t.2.s), .int .u64 (lo t.2.s), .int .i64 t.2.mn, .int .i64 t.2.mx] 56))
            have hb6 : Below w5.heap.size w5 w6 := by rw [HW6.out]; exact (Below.refl _ _).alloc (Nat.le_refl _) _
            have HX6 : Hid (w6.heap[w5.heap.size]? = some (.cells #[.slice sa0 sn0 sc0, .int .u64 t.2.c, .bool t.2.o, .int .i64 (hi t.2.s), .int .u64 (lo t.2.s), .int .i64 t.2.mn, .int .i64 t.2.mx] 56)) := by rw [HW6.out]; exact heap_alloc_new _ _
            have HTL : Hid (∀ w7 W (sa : Option Addr) (sn sc : Nat) (a : Ag) (ok : Bool), Fr w.heap.size hh w6 w7 → hh ≤ w7.heap.size → NxQ w.heap.size hh h T (.slice sa sn sc) a ok w7 → StW w7 W w5.heap.size 0 #[.slice sa0 sn0 sc0, .int .u64 t.2.c, .bool t.2.o, .int .i64 (hi t.2.s), .int .u64 (lo t.2.s), .int .i64 t.2.mn, .int .i64 t.2.mx] 56 (c7 ⟨.slice sa sn sc, [], a⟩) → AlI rs w hh h w5.heap.size (D ++ [t]) T (xs ++ [⟨.slice sa0 sn0 sc0, t.1.1, t.2⟩]) (.slice (some ⟨g5, 0, none⟩) (m + 1 + 1) cap5) (.slice sa sn sc) a ok W ∧ Value.ownBlock (.slice (some ⟨g5, 0, none⟩) (m + 1 + 1) cap5) ≠ some w5.heap.size) := fun w7 W sa sn sc a ok hf7 hz7 hq7 hW => al_tail HSQ.out HE5.out HZ.out.1 HB5.out HZ5.out hb6 HX6.out hf7 hz7 hq7 rfl hW HAL.out
            have HS6 : Hid (HS w6 w.heap.size hh h T) := HS5.out.below hb6
            have HZ6 : Hid (hh ≤ w5.heap.size ∧ w5.heap.size < w6.heap.size) := ⟨HZ5.out, by rw [HW6.out]; simp⟩
            clear hb6
            go_wp2_with fail
            rw [← HW6.out]
            clear d0 d1 d2 d3 d4 d5 d6
            refine (next_q w.heap.size hh h T _ HS6.out).mono ?_
            rintro e w7 ⟨hf7, hz7, sa', sn', sc', a', r', ok', rfl, hq7⟩
            have HX7 : Hid (w7.heap[w5.heap.size]? = some (.cells #[.slice sa0 sn0 sc0, .int .u64 t.2.c, .bool t.2.o, .int .i64 (hi t.2.s), .int .u64 (lo t.2.s), .int .i64 t.2.mn, .int .i64 t.2.mx] 56)) := (hf7.h _ HZ6.out.1 HZ6.out.2).trans HX6.out
            have HF7 : Hid _ := hf7
            have HZ7 : Hid _ := hz7
            have HQ7 : Hid _ := hq7
            clear hf7 hz7 hq7
            unfold env
            go_wp2_with (refine stop_store 56 _ _ rfl ?_)
            refine Stop.of ?_
            refine wpList_storeN rfl _ _ _ rfl w5.heap.size 0 (c7 ⟨.slice sa' sn' sc', [], a'⟩) rfl rfl _ _ HX7.out (by rw [c7_len]; simp) (by kernel_rfl) (by kernel_rfl) ?_
            intro W hW
            have HNX : Hid _ := HTL.out w7 W sa' sn' sc' a' ok' HF7.out HZ7.out HQ7.out hW
            clear hW
            go_wp2_with fail
            go_roundg T.length
            case measure => have h9 := HN.out; simp at h9; omega
            case rel => exact ⟨D ++ [t], T, _, w5.heap.size, sa', sn', sc', a', ok', rfl, rfl, rfl, HNX.out.2, HNX.out.1⟩

end Go.Proofs.YthicmbjiblbcmaaGreat
