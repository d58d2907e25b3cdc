/- In which order runs are told is of no matter to what is offered. -/
import Derived.Test.YteagbcijpfpjhaaPK12
namespace Go.Proofs.Yteagbcijpfpjhaa
open Go.RowKit Go.Shelf

set_option maxRecDepth 100000 in
set_option maxHeartbeats 8000000 in
theorem order_walk (v : Value) (L : List Rn) (turn : Int) (w : World) (hR : NReads w v L) : Calls Try.prog 7 #[v, .int .i64 turn] w fun e w' => e = .returned (.bool true) ∧ Below w.heap.size w w' := by
  have HR : Hid (NReads w v L) := hR
  obtain ⟨a, cap, rfl, hl1, hl2⟩ := hR.form
  clear hR
  unfold maxLen at hl2
  obtain ⟨t, ht⟩ : ∃ t : Nat, bits .and .i64 turn 1023 = (t : Int) := ⟨(turn % 1024).toNat, by rw [i64_and1023]; omega⟩
  have ht2 : t ≤ 1023 := by rw [i64_and1023] at ht; omega
  obtain ⟨o, Ho⟩ := hid_ex (okB L)
  go_enter Try.func7, Try.ntmps7
  go_wp2_with fail
  refine (right_any _ L _ HR.out).mono ?_
  rw [← Ho.out]
  rintro e w1 ⟨rfl, hb1⟩
  have HB1 : Hid (Below w.heap.size w w1) := hb1
  clear hb1
  cases o with
  | false =>
    go_wp2_with fail
    refine (alive_any _).mono ?_
    rintro e w2 ⟨rfl, hb2⟩
    have HB2 : Hid (Below w.heap.size w w2) := HB1.out.trans (hb2.mono HB1.out.size)
    clear hb2
    go_wp2_with fail
    go_ret
    exact ⟨rfl, HB2.out⟩
  | true =>
    have HOK : Hid (okR L) := okB_iff.1 Ho.out.symm
    have h64 : L.length ≤ 64 := HOK.out.1
    by_cases hz : L.length = 0
    · have hbz : ((L.length : Int) == 0) = true := by rw [hz]; rfl
      go_wp2_with fail
      refine (alive_any _).mono ?_
      rintro e w2 ⟨rfl, hb2⟩
      have HB2 : Hid (Below w.heap.size w w2) := HB1.out.trans (hb2.mono HB1.out.size)
      clear hb2
      go_wp2_with fail
      go_ret
      exact ⟨rfl, HB2.out⟩
    · have hbz : ((L.length : Int) == 0) = false := by rw [beq_eq_false_iff_ne]; omega
      have hlp : 0 < L.length := by omega
      clear hz
      go_wp2_with fail
      go_loopw [5, 6] (fun mv i wr => ∃ k : Nat, k ≤ L.length ∧ i = .int .i64 (k : Int) ∧ Hid (NOwn 48 wr w1.heap.size mv ((rotN L t).take k)) ∧ Hid (Below w1.heap.size w1 wr)) (fun _ i _ => L.length - (intOf i).toNat)
      case atStart => exact ⟨0, by omega, rfl, NOwn.nil _ _ _, Below.refl _ _⟩
      case round =>
        obtain ⟨k, hk, rfl, HO, HB⟩ := hrel
        have HBr : Hid (Below w.heap.size w wr) := HB1.out.trans (HB.out.mono HB1.out.size)
        obtain ⟨M, HM⟩ := hid_ex ((rotN L t).take k)
        rw [← HM.out] at HO
        have hMl : M.length = k := by rw [HM.out, List.length_take, rotN_len]; omega
        obtain ⟨ma, mc, rfl, _⟩ := HO.out.reads.form
        by_cases hlt : k < L.length
        · have hmod : (k + t) % L.length < L.length := Nat.mod_lt _ (by omega)
          obtain ⟨b, off, rfl, hb⟩ := HR.out.ptr (by omega)
          obtain ⟨r, Hr⟩ := hid_ex (L[(k + t) % L.length]'hmod)
          obtain ⟨c0, c1, c2, c3⟩ := (HR.out.below HBr.out).four hmod r Hr.out
          have hm1 : (0 : Int) ≤ ((k : Int) + (t : Int)) % (L.length : Int) := Int.emod_nonneg _ (by omega)
          have hm2 : ((k : Int) + (t : Int)) % (L.length : Int) < (L.length : Int) := Int.emod_lt_of_pos _ (by omega)
          obtain ⟨M1, HM1⟩ := hid_ex (M ++ [r])
          have HN : Hid (M1 = (rotN L t).take (k + 1)) := by
            unfold Hid
            rw [rotN_step' hlt, ← HM.out, ← Hr.out, HM1.out]
          have hrk : RnOk r := by rw [Hr.out]; exact HR.out.ok _ (List.getElem_mem hmod)
          obtain ⟨v6, w6, hrun, hown6, hb6⟩ := run_appN (S := 22) (T := 48) Try.underlying22 infoN 22 w1.heap.size _ M r M1 HM1.out HO.out hrk (by omega) HB.out.size
          have HO6 : Hid (NOwn 48 w6 w1.heap.size v6 M1) := hown6
          have HB6 : Hid (Below w1.heap.size w1 w6) := HB.out.trans hb6
          clear hown6 hb6 hrk Hr hmod
          go_wp2_with (at_builtin; refine wpList_app_run rfl _ _ _ _ rfl rfl _ _ _ rfl rfl hrun ?_)
          clear c0 c1 c2 c3 hm1 hm2 hrun
          (try go_wp2_with fail)
          go_roundw
          case rel => exact ⟨k + 1, by omega, by go_num, by rw [← HN.out]; exact HO6.out, HB6.out⟩
          case measure => simp [intOf]; omega
        · have hkl : k = L.length := by omega
          have HPm : Hid (M.Perm L) := by
            unfold Hid
            rw [HM.out, hkl, List.take_of_length_le (by rw [rotN_len]; omega)]
            exact rotN_perm L t
          have HOM : Hid (okB M = true) := okB_true (okR_perm HPm.out.symm HOK.out)
          have HEQ : Hid (offT M = offT L) := (offT_perm HPm.out.symm (fun r hr => (HOK.out.2.1 r hr).1)).symm
          have HRM : Hid (NReads wr (.slice ma M.length mc) M) := HO.out.reads
          obtain ⟨hlk, HKL⟩ : (¬ ((k : Int) < (L.length : Int))) ∧ Hid (k = L.length) := ⟨by omega, hkl⟩
          clear HO HM hMl hkl hlt HKL
          generalize wr = W1 at *
          go_wp2_with fail
          refine (offer_any _ L _ (HR.out.below HBr.out)).mono ?_
          rintro e w2 ⟨hb2, hy, _⟩
          obtain ⟨va, rfl, hO2⟩ := hy Ho.out.symm
          have HB2 : Hid (Below w.heap.size w w2) := HBr.out.trans (hb2.mono HBr.out.size)
          have HRM2 : Hid (NReads w2 (.slice ma M.length mc) M) := HRM.out.below hb2
          obtain ⟨T, HT⟩ := hid_ex (offT L)
          rw [← HT.out] at hO2 HEQ ⊢
          have HO2 : Hid (Own w2 W1.heap.size va T.fs) := hO2
          obtain ⟨fa, fc, rfl, hfl⟩ := hO2.form
          unfold maxLen at hfl
          clear hO2 hy hb2
          go_wp2_with (refine stop_store 28 _ _ rfl ?_)
          refine Stop.of ?_
          refine wpList_storeN rfl _ _ _ rfl w2.heap.size 0 [.slice fa T.fs.length fc, .int .i64 T.lv] rfl rfl _ _ (heap_alloc_new _ _) (by simp) (by kernel_rfl) (by kernel_rfl) ?_
          intro W hW
          obtain ⟨hbW, hxW, hlW⟩ := stW_new hW (by simp)
          have HBW : Hid (Below w.heap.size w W) := HB2.out.trans (hbW.mono HB2.out.size)
          have HOW : Hid (Own W W1.heap.size (.slice fa T.fs.length fc) T.fs) := HO2.out.below hbW
          have HRW : Hid (NReads W (.slice ma M.length mc) M) := HRM2.out.below hbW
          have HX : Hid (W.heap[w2.heap.size]? = some (.cells #[.slice fa T.fs.length fc, .int .i64 T.lv] 28)) := hxW
          obtain ⟨A, HAA⟩ := hid_ex w2.heap.size
          rw [← HAA.out] at HX hlW ⊢
          clear hW hbW hxW HAA HO2 HRM HRM2
          go_wp2_with fail
          refine (offer_any _ M _ HRW.out).mono ?_
          rintro e w3 ⟨hb3, hy, _⟩
          obtain ⟨vb, rfl, hO3⟩ := hy HOM.out
          rw [HEQ.out] at hO3 ⊢
          have HB3 : Hid (Below w.heap.size w w3) := HBW.out.trans (hb3.mono HBW.out.size)
          have HOA3 : Hid (Own w3 W1.heap.size (.slice fa T.fs.length fc) T.fs) := HOW.out.below hb3
          have HX3 : Hid (w3.heap[A]? = some (.cells #[.slice fa T.fs.length fc, .int .i64 T.lv] 28)) := (hb3.block _ hlW).trans HX.out
          have HO3 : Hid (Own w3 W.heap.size vb T.fs) := hO3
          obtain ⟨ga, gc, rfl, hgl⟩ := hO3.form
          clear hO3 hy hb3
          go_wp2_with (refine stop_store 28 _ _ rfl ?_)
          refine Stop.of ?_
          refine wpList_storeN rfl _ _ _ rfl w3.heap.size 0 [.slice ga T.fs.length gc, .int .i64 T.lv] rfl rfl _ _ (heap_alloc_new _ _) (by simp) (by kernel_rfl) (by kernel_rfl) ?_
          intro V hV
          obtain ⟨hbV, hxV, hlV⟩ := stW_new hV (by simp)
          have HBV : Hid (Below w.heap.size w V) := HB3.out.trans (hbV.mono HB3.out.size)
          have HOA : Hid (Own V W1.heap.size (.slice fa T.fs.length fc) T.fs) := HOA3.out.below hbV
          have HOB : Hid (Own V W.heap.size (.slice ga T.fs.length gc) T.fs) := HO3.out.below hbV
          have HXA : Hid (V.heap[A]? = some (.cells #[.slice fa T.fs.length fc, .int .i64 T.lv] 28)) := (hbV.block _ (Array.getElem?_eq_some_iff.1 HX3.out).1).trans HX3.out
          have HXB : Hid (V.heap[w3.heap.size]? = some (.cells #[.slice ga T.fs.length gc, .int .i64 T.lv] 28)) := hxV
          obtain ⟨B, HBB⟩ := hid_ex w3.heap.size
          rw [← HBB.out] at HXB hlV ⊢
          clear hV hbV hxV HBB HO3 HOA3 HX3
          have f0 := (cell_row HXA.out 0 (by simp)).1
          have f1 := (cell_row HXA.out 1 (by simp)).1
          have g0 := (cell_row HXB.out 0 (by simp)).1
          have g1 := (cell_row HXB.out 1 (by simp)).1
          simp only [List.getElem_toArray, List.getElem_cons_zero, List.getElem_cons_succ] at f0 f1 g0 g1
          have hAl : A < V.heap.size := (Array.getElem?_eq_some_iff.1 HXA.out).1
          go_wp2_with fail
          go_loopw [13] (fun i wr => ∃ k : Nat, k ≤ T.fs.length ∧ i = .int .i64 (k : Int) ∧ Hid (Below V.heap.size V wr)) (fun i _ => T.fs.length - (intOf i).toNat)
          case atStart => exact ⟨0, by omega, rfl, Below.refl _ _⟩
          case round =>
            obtain ⟨m, hm, rfl, HBm⟩ := hrel
            have e0 := (HBm.out.cell (p := ⟨A, 0, none⟩) hAl).trans f0
            have e1 := (HBm.out.cell (p := ⟨B, 0, none⟩) hlV).trans g0
            have HBw : Hid (Below w.heap.size w wr) := HBV.out.trans (HBm.out.mono HBV.out.size)
            by_cases hlt9 : m < T.fs.length
            · obtain ⟨fb, fo, rfl, hfb, hfc⟩ := (HOA.out.below HBm.out).reads.at m hlt9
              obtain ⟨gb, go, rfl, hgb, hgc⟩ := (HOB.out.below HBm.out).reads.at m hlt9
              obtain ⟨y, Hy⟩ := hid_ex (T.fs[m]'hlt9)
              rw [← Hy.out] at hfc hgc
              unfold ic at hfc hgc
              clear f0 f1 g0 g1
              go_wp2_with fail
              go_quiet (fail)
              have HBn : Hid (Below V.heap.size V (wr.drewN nq)) := below_drewN HBm.out nq
              go_wp2_with fail
              go_roundw
              case rel => exact ⟨m + 1, by omega, by go_num, HBn.out⟩
              case measure => simp [intOf]; omega
            · go_wp2_with fail
              refine (alive_any _).mono ?_
              rintro e w5 ⟨rfl, hb5⟩
              have HB5 : Hid (Below w.heap.size w w5) := HBw.out.trans (hb5.mono HBw.out.size)
              clear hb5
              go_wp2_with fail
              go_ret
              exact ⟨rfl, HB5.out⟩
end Go.Proofs.Yteagbcijpfpjhaa
