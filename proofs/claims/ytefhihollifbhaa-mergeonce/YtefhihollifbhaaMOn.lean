/- Each entry is told once, and keys never fall. -/
import Derived.Test.YtefhihollifbhaaMG24
import Derived.Test.YtefhihollifbhaaMAl
import Derived.BigQuiet
import Derived.Deep.QuietTactic
namespace Go.Proofs.Ytefhihollifbhaa
open Go.RowKit Go.Joins

theorem rReads_some2 {w : World} {a : Option Addr} {n cap : Nat} {rs : List (List En)} (h : RReads w (.slice a n cap) rs) (h0 : 0 < rs.length) : ∃ b off, a = some ⟨b, off, none⟩ ∧ b < w.heap.size := by
  obtain ⟨a', cap', hv, h1, h2, h3⟩ := h
  simp at hv
  obtain ⟨rfl, rfl, rfl⟩ := hv
  rcases h3 with rfl | ⟨b, off, rfl, h5, h6⟩
  · simp at h0
  · exact ⟨b, off, rfl, h5⟩
theorem eReads_some2 {w : World} {a : Option Addr} {n cap : Nat} {L : List En} (h : EReads w (.slice a n cap) L) (h0 : 0 < L.length) : ∃ b off, a = some ⟨b, off, none⟩ ∧ b < w.heap.size := by
  obtain ⟨b, off, cap', hv, hb⟩ := eReads_some h h0
  simp at hv
  exact ⟨b, off, hv.1, hb⟩
set_option maxRecDepth 100000 in
set_option maxHeartbeats 2000000 in
theorem once_walk (v : Value) (rs : List (List En)) (w : World) (hR : RReads w v rs) : Calls Try.prog 6 #[v] w fun e w' => e = .returned (.bool true) ∧ Below w.heap.size w w' := by
  have HR : Hid (RReads w v rs) := hR
  obtain ⟨av, cv, rfl, _⟩ := hR
  go_enter Try.func6, Try.ntmps6
  go_wp2_with fail
  refine (great_any _ rs _ HR.out).mono ?_
  rintro e w1 ⟨gg, rfl, hgg, hw1⟩
  subst hw1
  cases gg with
  | true =>
    go_wp2_with fail
    refine (alive_any _).mono ?_
    rintro e w2 ⟨rfl, hb2⟩
    have HB2 : Hid _ := hb2
    clear hb2
    go_wp2_with fail
    go_ret
    exact ⟨rfl, HB2.out⟩
  | false =>
    have HG : Hid (rs.length ≤ 20 ∧ ∀ r ∈ rs, okRow r) := hgg rfl
    have HOK : Hid (OkRs rs) := okRs_of HG.out
    have hr20 : rs.length ≤ 20 := HG.out.1
    have HSL : Hid _ := seq60 HG.out
    clear hgg
    go_wp2_with fail
    refine (new_any _ rs _ HR.out HOK.out.l1 HOK.out.l2 HOK.out.l3).mono ?_
    rintro e w2 ⟨hb2, ⟨hne, rfl⟩ | ⟨hz, h, hh, rfl, hs⟩⟩
    · have HB2 : Hid _ := hb2
      have hb0 : (rowsF rs == 0) = false := by simp [hne]
      clear hb2 hne HSL
      generalize rowsF rs = rr at *
      go_wp2_with fail
      refine (alive_any _).mono ?_
      rintro e w3 ⟨rfl, hb3⟩
      have HB3 : Hid (Below w1.heap.size w1 w3) := HB2.out.trans (hb3.mono HB2.out.size)
      clear hb3
      go_wp2_with fail
      go_ret
      exact ⟨rfl, HB3.out⟩
    · have HZ : Hid _ := hz
      obtain ⟨i0, hinf, hz0, hz1, hz2⟩ := info_parts infoInt
      obtain ⟨w3, hr3, hown3, hg3⟩ := run_make_full (P := Try.prog) w2 w2.heap.size 31 3 i0 _ 1 Try.underlying31 hinf hz0 hz1 .i64 .i64 rs.length (by rw [hz2]; omega) (by unfold maxLen; omega) (Nat.le_refl _)
      obtain ⟨g, Hg⟩ := hid_ex w2.heap.size
      have HI0 : Hid (OnI rs w1 hh h g [] (seqF rs) (.slice none 0 0) (.int .i64 (-1)) w3) := by
        have hb3 : Below w2.heap.size w2 w3 := (Below.refl _ _).grown hg3 (Nat.le_refl _) (fun k e => by cases e)
        have hlo : w1.heap.size ≤ hh := by
          obtain ⟨P, h1, _⟩ := hs.m
          have := h1.h1; have := h1.h2; omega
        rw [Hg.out]
        exact ⟨rfl, hs.below hb3, AtM.made hown3, ⟨rfl, rfl⟩, hb2.trans (hb3.mono hb2.size), hlo, hs.z⟩
      clear hb2 hz hs hinf hz0 hz1 hz2 hown3 hg3
      rw [← Hg.out] at hr3
      go_wp2_with fail
      clear hr3 Hg
      go_loopw [6, 7, 8] (fun lv fv i wr => ∃ D T : List Tg, i = .int .i64 (D.length : Int) ∧ Hid (OnI rs w1 hh h g D T lv fv wr)) (fun _ _ i _ => 1300 - (intOf i).toNat)
      case atStart => exact ⟨[], seqF rs, rfl, HI0.out⟩
      case round =>
        clear HI0
        obtain ⟨D, T, rfl, HI⟩ := hrel
        have hDT : D.length + T.length ≤ 1200 := by
          have h1 := HSL.out
          rw [HI.out.s, List.length_append] at h1
          exact h1
        cases T with
        | nil =>
          go_wp2_with fail
          refine (next_any w1.heap.size hh h [] _ HI.out.q).mono ?_
          rintro e w7 ⟨hf7, rfl, hs7⟩
          unfold env
          have HAT : Hid (∀ W b0, StW (w7.alloc (.cells b0 41)) W w7.heap.size 0 b0 41 (c7 ⟨.slice none 0 0, [], agZ⟩) → AtM W g rs.length (cntD (seqF rs)) ∧ Below w1.heap.size w1 W) := by
            intro W b0 hW
            have hgl := HI.out.a.lt
            have hsz := hf7.b.size
            have hzz := HI.out.z
            have hbs := HI.out.b.size
            have hbW : Below w7.heap.size w7 W := ((Below.refl _ _).alloc (Nat.le_refl _) _).trans (hW.b _ (Nat.le_refl _))
            have e1 := HI.out.s
            rw [List.append_nil] at e1
            rw [e1]
            exact ⟨(HI.out.a.keep (hf7.h g hzz.2 hgl)).keep (hbW.block g (by omega)), (HI.out.b.trans hf7.b).trans (hbW.mono (by omega))⟩
          clear hf7 hs7
          go_wp2_with (refine stop_store 41 _ _ rfl ?_)
          refine Stop.of ?_
          refine wpList_storeN rfl _ _ _ rfl w7.heap.size 0 (c7 ⟨.slice none 0 0, [], agZ⟩) rfl rfl _ _ (heap_alloc_new _ _) (by rw [c7_len]; simp) (by kernel_rfl) (by kernel_rfl) ?_
          intro W hW
          have HW : Hid _ := HAT.out W _ hW
          clear hW HAT
          go_wp2_with fail
          go_loopw [12] (fun i wq => ∃ k : Nat, k ≤ rs.length ∧ i = .int .i64 (k : Int) ∧ Hid (Below W.heap.size W wq)) (fun i _ => rs.length - (intOf i).toNat)
          case atStart => exact ⟨0, by omega, rfl, Below.refl _ _⟩
          case round =>
            obtain ⟨k, hk, rfl, HWq⟩ := hrel
            have HBq : Hid (Below w1.heap.size w1 wr) := HW.out.2.trans (HWq.out.mono HW.out.2.size)
            by_cases hlt : k < rs.length
            · obtain ⟨rb, ro, rfl, hrb⟩ := rReads_some2 HR.out (by omega)
              obtain ⟨ev, hcv, hev⟩ := rReads_at HR.out hlt
              obtain ⟨ea, ec, rfl, hle1, hle2⟩ := hev.form
              unfold maxLen at hle2
              have hat := (HW.out.1.cell hlt).1
              rw [once_end HZ.out hlt] at hat
              obtain ⟨r, Hr⟩ := hid_ex (rs[k]'hlt).length
              rw [← Hr.out] at hcv hat hle1
              have hc1 : wr.cell? ⟨rb, ro + k, none⟩ = some (.slice ea r ec) := (HBq.out.cell (p := ⟨rb, _, none⟩) hrb).trans hcv
              have hc2 : wr.cell? ⟨g, k, none⟩ = some (.int .i64 (r : Int)) := (HWq.out.cell (p := ⟨g, _, none⟩) HW.out.1.lt).trans hat
              clear hcv hev hat Hr
              go_wp2_with fail
              go_quiet (fail)
              have HWe : Hid (Below W.heap.size W (wr.drewN nq)) := below_drewN HWq.out nq
              clear hc1 hc2
              go_wp2_with fail
              go_roundw
              case rel => exact ⟨k + 1, by omega, by go_num, HWe.out⟩
              case measure => simp [intOf]; omega
            · go_wp2_with fail
              refine (alive_any _).mono ?_
              rintro e w8 ⟨rfl, hb8⟩
              have HB8 : Hid (Below w1.heap.size w1 w8) := HBq.out.trans (hb8.mono HBq.out.size)
              clear hb8
              go_wp2_with fail
              go_ret
              exact ⟨rfl, HB8.out⟩
        | cons t T =>
          obtain ⟨hn, hc, hent⟩ := once_at HZ.out HI.out.s
          go_wp2_with fail
          refine (next_any w1.heap.size hh h (t :: T) _ HI.out.q).mono ?_
          rintro e w7 ⟨hf7, kv, rfl, ho7, hs7⟩
          obtain ⟨sa, sc, rfl, hsl⟩ := ho7.form
          unfold maxLen at hsl
          unfold env
          have HON : Hid (∀ W b0, StW (w7.alloc (.cells b0 41)) W w7.heap.size 0 b0 41 (c7 ⟨.slice sa t.1.1.length sc, [], t.2⟩) → b0.size = 7 → _) := fun W b0 hW hb0 => on_next HI.out hf7 hs7 ho7 hW hb0
          have HSO : Hid (seqF rs = D ++ t :: T) := HI.out.s
          have HZZ : Hid _ := HI.out.z
          clear hf7 hs7 ho7
          go_wp2_with (refine stop_store 41 _ _ rfl ?_)
          refine Stop.of ?_
          refine wpList_storeN rfl _ _ _ rfl w7.heap.size 0 (c7 ⟨.slice sa t.1.1.length sc, [], t.2⟩) rfl rfl _ _ (heap_alloc_new _ _) (by rw [c7_len]; simp) (by kernel_rfl) (by kernel_rfl) ?_
          intro W hW
          obtain ⟨ha1, ha2, ha3, ha4, ha5, ha6, ha7⟩ := HON.out W _ hW rfl
          clear hW HON HI
          obtain ⟨xb, Hxb⟩ := hid_ex w7.heap.size
          rw [← Hxb.out] at ha6 ha7 ⊢
          clear Hxb
          have HB : Hid (Below w1.heap.size w1 W) := ha1
          have HQ : Hid (HS W w1.heap.size hh h T) := ha2
          have HL : Hid (LastO W w1.heap.size D u6 u7) := ha4
          have HO : Hid (Own W w1.heap.size (.slice sa t.1.1.length sc) t.1.1) := ha5
          have HX : Hid _ := ha6
          obtain ⟨cur, hcur, hcu2⟩ := ha3
          have HCU : Hid _ := hcur
          have HC2 : Hid _ := hcu2
          have HXN : Hid _ := ha7
          have hRk := ha5.reads
          obtain ⟨rb, ro, rfl, hrb⟩ := rReads_some2 HR.out (by omega)
          obtain ⟨ev, hcv, hev⟩ := rReads_at HR.out hn
          obtain ⟨ea, ec, rfl, hle1, hle2⟩ := hev.form
          unfold maxLen at hle2
          obtain ⟨eb, eo, rfl, heb⟩ := eReads_some2 hev (by omega)
          obtain ⟨kv2, hcc, hRk2, _⟩ := eReads_at hev hc rfl
          rw [hent] at hcc hRk2
          simp only at hcc hRk2
          obtain ⟨ak, ck, rfl, _⟩ := hRk2.form
          have hcs : t.1.2 < cur.size := (Array.getElem?_eq_some_iff.1 (hcu2 _ hn)).1
          have r0 : W.cell? ⟨rb, ro + t.1.2, none⟩ = some (.slice (some ⟨eb, eo, none⟩) (rs[t.1.2]'hn).length ec) := (ha1.cell (p := ⟨rb, _, none⟩) hrb).trans hcv
          have a0 : W.cell? ⟨g, t.1.2, none⟩ = some (.int .i64 (cntD D t.1.2 : Int)) := by
            have := (AtM.cell ⟨cur, hcur, hcu2⟩ hn).1
            exact this
          have hq : ∀ i (hi : i < 7), W.cell? ⟨eb, eo + cntD D t.1.2 * 7 + i, none⟩ = some ((c7 ⟨.slice ak t.1.1.length ck, t.1.1, t.2⟩)[i]'hi) := fun i hi => (ha1.cell (p := ⟨eb, _, none⟩) heb).trans (hcc i hi)
          have HCN2 : Hid (∀ j, cntD (D ++ [t]) j = if t.1.2 = j then cntD D j + 1 else cntD D j) := fun j => cntD_snoc D t j
          obtain ⟨c, Hc⟩ := hid_ex (cntD D t.1.2)
          obtain ⟨rl, Hrl⟩ := hid_ex (rs[t.1.2]'hn).length
          obtain ⟨n, Hn⟩ := hid_ex t.1.2
          have HCA : Hid (c = cntD D n) := by rw [Hn.out]; exact Hc.out
          rw [← Hc.out] at hc a0 hq
          rw [← Hrl.out] at hc r0 hle1
          rw [← Hn.out] at hn a0 r0 hcs HCN2 ⊢
          have c0 := hq 0 (by decide)
          have c1 := hq (1 + 0) (by decide)
          have c2 := hq (1 + 1) (by decide)
          have c3 := hq (1 + 2) (by decide)
          have c4 := hq (1 + 3) (by decide)
          have c5 := hq (1 + 4) (by decide)
          have c6 := hq (1 + 5) (by decide)
          simp only [c7, List.getElem_cons_zero, List.getElem_cons_succ, Nat.add_zero, Nat.reduceAdd] at c0 c1 c2 c3 c4 c5 c6
          have d0 := (cell_row ha6 0 (by simp [c7])).1
          have d1 := (cell_row ha6 1 (by simp [c7])).1
          have d2 := (cell_row ha6 2 (by simp [c7])).1
          have d3 := (cell_row ha6 3 (by simp [c7])).1
          have d4 := (cell_row ha6 4 (by simp [c7])).1
          have d5 := (cell_row ha6 5 (by simp [c7])).1
          have d6 := (cell_row ha6 6 (by simp [c7])).1
          simp only [c7, List.getElem_toArray, List.getElem_cons_zero, List.getElem_cons_succ] at d0 d1 d2 d3 d4 d5 d6
          have hq1 : ∀ m, (convert 34 9 (.slice ak t.1.1.length ck)).run Try.prog (W.drewN m) = .ok (.string ⟨t.1.1.toArray⟩) (W.drewN m) := fun m => reads_text (hRk2.below (below_drewN ha1 m))
          have hq2 : ∀ m, (convert 34 9 (.slice sa t.1.1.length sc)).run Try.prog (W.drewN m) = .ok (.string ⟨t.1.1.toArray⟩) (W.drewN m) := fun m => reads_text (hRk.below (below_drewN (Below.refl _ _) m))
          clear hq hcc hcv hev hRk hRk2 hent ha1 ha2 ha4 ha5 ha6 ha7 hcur hcu2 Hrl
          go_wp2_with fail
          go_quiet (fail)
          obtain ⟨wd, Hwd⟩ := hid_ex (W.drewN nq)
          have hbd : Below W.heap.size W wd := by rw [Hwd.out]; exact below_drewN (Below.refl _ _) nq
          rw [← Hwd.out]
          clear Hwd hq1 hq2 c0 c1 c2 c3 c4 c5 c6 d1 d2 d3 d4 d5 d6 r0
          have hgW : g < W.heap.size := (Array.getElem?_eq_some_iff.1 HCU.out).1
          have hxW : xb < W.heap.size := (Array.getElem?_eq_some_iff.1 HX.out).1
          have a1 : wd.cell? ⟨g, n, none⟩ = some (.int .i64 (c : Int)) := (hbd.cell (p := ⟨g, _, none⟩) hgW).trans a0
          have HCUd : Hid (wd.heap[g]? = some (.cells cur 3)) := (hbd.block g hgW).trans HCU.out
          have HXd : Hid (wd.heap[xb]? = some (.cells (c7 ⟨.slice sa t.1.1.length sc, [], t.2⟩).toArray 41)) := (hbd.block xb hxW).trans HX.out
          have HST : Hid (∀ W5, StW wd W5 g n cur 3 [.int .i64 ((c : Int) + 1)] → OnI rs w1 hh h g (D ++ [t]) T (.slice sa t.1.1.length sc) (.int .i64 (n : Int)) W5 ∧ LastO W5 w1.heap.size D u6 u7 ∧ ∀ k, k ≠ g → W5.heap[k]? = wd.heap[k]?) := fun W5 hW5 => on_store HSO.out Hn.out (HB.out.trans (hbd.mono HB.out.size)) (HQ.out.below hbd) (HL.out.below hbd) (HO.out.below hbd) HCUd.out HC2.out (by rw [HCA.out] at hW5; exact hW5) HZZ.out
          clear hbd a0 d0 hgW hxW
          go_wp2_with (refine stop_store 3 _ _ rfl ?_)
          refine Stop.of ?_
          refine wpList_storeI rfl _ _ _ rfl g n ((c : Int) + 1) rfl rfl cur _ HCUd.out (by omega) (by kernel_rfl) ?_
          intro W5 hW5
          obtain ⟨ho1, ho2, ho3⟩ := HST.out W5 hW5
          have HI5 : Hid _ := ho1
          have d0 := (cell_row ((ho3 xb HXN.out).trans HXd.out) 0 (by simp [c7])).1
          simp only [c7, List.getElem_toArray, List.getElem_cons_zero] at d0
          have hq2 : (convert 34 9 (.slice sa t.1.1.length sc)).run Try.prog W5 = .ok (.string ⟨t.1.1.toArray⟩) W5 := reads_text (lastO_snoc ho1.l).1.reads
          clear hW5 HST ho1 ho3 a1 HCUd HXd
          rcases nil_or_snoc D with rfl | ⟨D', t', rfl⟩
          · obtain ⟨rfl, rfl⟩ := lastO_nil ho2
            clear ho2
            have e0 : (([] : List Tg).length : Int) = 0 := rfl
            rw [e0]
            clear e0
            go_wp2_with fail
            go_roundw
            case rel => exact ⟨[] ++ [t], T, by go_num, HI5.out⟩
            case measure => simp [intOf]
          · obtain ⟨hol, hfv⟩ := lastO_snoc ho2
            subst hfv
            have HOR : Hid _ := ord_last HZ.out HSO.out
            obtain ⟨la, lc, rfl, hll⟩ := hol.form
            have hq3 : (convert 34 9 (.slice la t'.1.1.length lc)).run Try.prog W5 = .ok (.string ⟨t'.1.1.toArray⟩) W5 := reads_text hol.reads
            obtain ⟨N, HN⟩ := hid_ex (D' ++ [t']).length
            have hN0 : 0 < N := by rw [HN.out]; simp
            rw [← HN.out] at hDT ⊢
            have hns : (N : Int) + 1 = (((D' ++ [t']) ++ [t]).length : Int) := by rw [List.length_append, ← HN.out]; simp
            have HNS : Hid _ := hns
            clear hns
            clear ho2 hol
            rcases HOR.out with hl | ⟨hl, hl2⟩
            · have hle : Op.bytesLess t'.1.1 t.1.1 = true := (less_iff _ _).2 hl
              have hbe : (t'.1.1 == t.1.1) = false := by simpa using ltK_ne hl
              go_wp2_with fail
              go_roundw
              case rel => exact ⟨(D' ++ [t']) ++ [t], T, by rw [← HNS.out], HI5.out⟩
              case measure => have h9 := HN.out; simp at h9; simp [intOf]; omega
            · rw [hl] at hq3
              have hle : Op.bytesLess t.1.1 t.1.1 = false := less_no (ltK_irrefl _)
              rw [← Hn.out] at hl2
              go_wp2_with fail
              go_roundw
              case rel => exact ⟨(D' ++ [t']) ++ [t], T, by rw [← HNS.out], HI5.out⟩
              case measure => have h9 := HN.out; simp at h9; simp [intOf]; omega
end Go.Proofs.Ytefhihollifbhaa
