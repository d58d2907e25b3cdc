/- The contract of the reference's Seek. -/
import Derived.Test.YtfgggfddehgigaaRK6
import Derived.Test.YtfgggfddehgigaaBK11
namespace Go.Proofs.Ytfgggfddehgigaa
open Go.RowKit

/-- Bytes stay where a pair is written. -/
theorem Reads.setP {W : World} {v u : Value} {l : List UInt8} {B i : Nat} {T : TypeId} {a1 a2 : Option Addr} {n1 n2 c1 c2 : Nat} (h : Reads W v l) (hb : W.heap[B]? = some (.cells #[.slice a1 n1 c1, .slice a2 n2 c2] T)) : Reads (W.setCell ⟨B, i, none⟩ u) v l := by
  rcases h with h | ⟨b, off, cap, rfl, h2, h3, h4, h5, h6⟩
  · exact .inl h
  · have hne : b ≠ B := by
      rintro rfl
      have := h6 0 h2
      simp only [World.cell?, hb] at this
      match off, this with
      | 0, this => simp [bc] at this
      | 1, this => simp [bc] at this
      | n + 2, this => simp at this
    refine .inr ⟨b, off, cap, rfl, h2, h3, h4, by simpa using h5, fun j hj => ?_⟩
    rw [World.cell?_of_block (w := W) (Go.heap_setCell_other W ⟨B, i, none⟩ b u hne)]
    exact h6 j hj
set_option maxRecDepth 100000 in
set_option maxHeartbeats 4000000 in
theorem refSeek_any (v kv : Value) (bs : List UInt8) (key : Ks) (w : World) (hR : Reads w v bs) (hK : Reads w kv key) :
    Calls Try.prog 17 #[v, kv] w fun e W' => SkPost w bs key e W' := by
  have HR : Hid (Reads w v bs) := hR
  have HK : Hid (Reads w kv key) := hK
  obtain ⟨a, cap, rfl, _⟩ := hR.form
  obtain ⟨ak, ck, rfl, _⟩ := hK.form
  clear hR hK
  obtain ⟨w0, HW0⟩ := hid_ex (w.alloc (.cells #[.slice none 0 0, .slice none 0 0] 43))
  have HB0 : Hid (Below w.heap.size w w0) := by rw [HW0.out]; exact (Below.refl _ _).alloc (Nat.le_refl _) _
  have HZ0 : Hid (w0.heap[w.heap.size]? = some (.cells #[.slice none 0 0, .slice none 0 0] 43)) := by rw [HW0.out]; exact World.alloc_heap_new _ _
  go_enter Try.func17, Try.ntmps17
  go_wp2_with fail
  rw [← HW0.out]
  refine (refRead_any _ bs _ (HR.out.below HB0.out)).mono ?_
  rintro e w1 ⟨hb1, he⟩
  have HB1 : Hid (Below w.heap.size w w1) := HB0.out.trans (hb1.mono HB0.out.size)
  have HZ1 : Hid (w1.heap[w.heap.size]? = some (.cells #[.slice none 0 0, .slice none 0 0] 43)) := (hb1.block _ (Array.getElem?_eq_some_iff.1 HZ0.out).1).trans HZ0.out
  clear hb1 HB0 HZ0 HW0
  cases hrd : rdB bs with
  | none =>
    rw [hrd] at he
    dsimp only at he
    subst he
    have f0 := frozen_rw HZ1.out 0
    have f1 := frozen_rw HZ1.out 1
    have z0 := cell_rw HZ1.out 0 (by simp)
    have z1 := cell_rw HZ1.out 1 (by simp)
    simp only [List.getElem_toArray, List.getElem_cons_succ, List.getElem_cons_zero] at z0 z1
    have HBE : Hid (Below w.heap.size w ((w1.setCell ⟨w.heap.size, 0, none⟩ (.slice none 0 0)).setCell ⟨w.heap.size, 1, none⟩ (.slice none 0 0))) := (HB1.out.setCell (by simp) _).setCell (by simp) _
    have HRN : Hid (rdB bs = none) := hrd
    clear hrd
    go_wp2_with fail
    go_loopw [9] (fun i wr => wr = w1 ∧ i = .int .i64 0) (fun _ _ => 0)
    case atStart => exact ⟨rfl, rfl⟩
    case round =>
      obtain ⟨rfl, rfl⟩ := hrel
      go_wp2_with fail
      exact bodyPost_ret (results_rtt rfl _ _ w.heap.size _ rfl (run_loadVar_row _ w.heap.size _ _ _ (0, 0) _ (set2 HZ1.out _ _) Try.underlying43 rfl (by kernel_rfl))) rfl ⟨HBE.out, by rw [HRN.out]; rfl⟩
  | some l =>
    rw [hrd] at he
    obtain ⟨u, rfl, hP⟩ := he
    have HRS : Hid (rdB bs = some l) := hrd
    obtain ⟨al, cl, rfl, hcl, hml, h3⟩ := hP
    unfold maxLen at hml
    have H3 : Hid _ := h3
    clear h3 hrd
    go_wp2_with fail
    go_loopw [9] (fun i wr => ∃ k : Nat, k ≤ l.length ∧ i = .int .i64 (k : Int) ∧ Hid (∀ x ∈ l.take k, ltK x.1 key) ∧ Hid (Below w1.heap.size w1 wr)) (fun i _ => l.length - (intOf i).toNat)
    case atStart => exact ⟨0, by omega, rfl, fun x hx => by simp at hx, Below.refl _ _⟩
    case round =>
      obtain ⟨k, hk, rfl, HL, HW⟩ := hrel
      have HWW : Hid (Below w.heap.size w wr) := HB1.out.trans (HW.out.mono HB1.out.size)
      by_cases hlt : k < l.length
      · obtain ⟨bA, oA, rfl, hbA, hA⟩ := H3.out.resolve_left (fun h => by rw [h] at hlt; simp at hlt)
        obtain ⟨kx, vx, q0, q1, r0, r1⟩ := hA k hlt
        have HFA : Hid (¬ ltK l[k].1 key → fsF l key = some l[k]) := fun h => fsF_at hlt HL.out h
        obtain ⟨X, HX⟩ := hid_ex l[k]
        rw [← HX.out] at r0 r1 HFA
        have HTk : Hid (l.take (k + 1) = l.take k ++ [X]) := by unfold Hid; rw [List.take_add_one, List.getElem?_eq_getElem hlt, HX.out]; rfl
        have c0 := (HW.out.cell (p := ⟨bA, oA + k * 2, none⟩) hbA).trans q0
        have c1 := (HW.out.cell (p := ⟨bA, oA + k * 2 + 1, none⟩) hbA).trans q1
        have HR0 : Hid (Reads w1 kx X.1) := r0
        have HR1 : Hid (Reads w1 vx X.2) := r1
        obtain ⟨a1, c1', rfl, _⟩ := r0.form
        obtain ⟨a2, c2', rfl, _⟩ := r1.form
        clear hA r0 r1 HX
        have hq1 : ∀ n, (convert 23 9 (.slice a1 X.1.length c1')).run Try.prog (wr.drewN n) = .ok (.string ⟨X.1.toArray⟩) (wr.drewN n) := fun n => reads_text (HR0.out.below (below_drewN HW.out n))
        have hq2 : ∀ n, (convert 23 9 (.slice ak key.length ck)).run Try.prog (wr.drewN n) = .ok (.string ⟨key.toArray⟩) (wr.drewN n) := fun n => reads_text (HK.out.below (below_drewN HWW.out n))
        by_cases hl : ltK X.1 key
        · have hle : Op.bytesLess X.1 key = true := by rw [rless_ltK]; exact decide_eq_true hl
          go_wp2_with fail
          go_quiet (fail)
          clear hq1 hq2
          have HW2' : Hid (Below w1.heap.size w1 (wr.drewN nq)) := below_drewN HW.out nq
          go_wp2_with fail
          go_roundw
          case rel =>
            refine ⟨k + 1, by omega, by go_num, ?_, HW2'⟩
            rw [HTk.out]
            intro y hy
            rcases List.mem_append.1 hy with hy | hy
            · exact HL.out y hy
            · simp at hy; subst hy; exact hl
          case measure => simp [intOf]; omega
        · have hle : Op.bytesLess X.1 key = false := by rw [rless_ltK]; exact decide_eq_false hl
          go_wp2_with fail
          go_quiet (fail)
          clear hq1 hq2 c0 c1
          obtain ⟨w2, HW2⟩ := hid_ex (wr.drewN nq)
          rw [← HW2.out]
          have HW2' : Hid (Below w1.heap.size w1 w2) := by rw [HW2.out]; exact below_drewN HW.out nq
          have HB2 : Hid (Below w.heap.size w w2) := by rw [HW2.out]; exact below_drewN HWW.out nq
          have c0 := (HW2'.out.cell (p := ⟨bA, oA + k * 2, none⟩) hbA).trans q0
          have c1 := (HW2'.out.cell (p := ⟨bA, oA + k * 2 + 1, none⟩) hbA).trans q1
          have HY2 : Hid (w2.heap[w.heap.size]? = some (.cells #[.slice none 0 0, .slice none 0 0] 43)) := (HW2'.out.block _ (Array.getElem?_eq_some_iff.1 HZ1.out).1).trans HZ1.out
          have f0 := frozen_rw HY2.out 0
          have f1 := frozen_rw HY2.out 1
          have z0 := cell_rw HY2.out 0 (by simp)
          have z1 := cell_rw HY2.out 1 (by simp)
          simp only [List.getElem_toArray, List.getElem_cons_succ, List.getElem_cons_zero] at z0 z1
          have HP3 : Hid _ := set2 HY2.out (.slice a1 X.1.length c1') (.slice a2 X.2.length c2')
          have HO3 : Hid (Reads ((w2.setCell ⟨w.heap.size, 0, none⟩ (.slice a1 X.1.length c1')).setCell ⟨w.heap.size, 1, none⟩ (.slice a2 X.2.length c2')) (.slice a1 X.1.length c1') X.1) := ((HR0.out.below HW2'.out).setP HY2.out).setP (by have := Go.heap_setCell_same w2 w.heap.size 0 _ _ (.slice a1 X.1.length c1') HY2.out; simpa using this)
          have HU3 : Hid (Reads ((w2.setCell ⟨w.heap.size, 0, none⟩ (.slice a1 X.1.length c1')).setCell ⟨w.heap.size, 1, none⟩ (.slice a2 X.2.length c2')) (.slice a2 X.2.length c2') X.2) := ((HR1.out.below HW2'.out).setP HY2.out).setP (by have := Go.heap_setCell_same w2 w.heap.size 0 _ _ (.slice a1 X.1.length c1') HY2.out; simpa using this)
          have HBE : Hid (Below w.heap.size w ((w2.setCell ⟨w.heap.size, 0, none⟩ (.slice a1 X.1.length c1')).setCell ⟨w.heap.size, 1, none⟩ (.slice a2 X.2.length c2'))) := (HB2.out.setCell (by simp) _).setCell (by simp) _
          go_wp2_with fail
          exact bodyPost_ret (results_rtt rfl _ _ w.heap.size _ rfl (run_loadVar_row _ w.heap.size _ _ _ (0, 0) _ HP3.out Try.underlying43 rfl (by kernel_rfl))) rfl ⟨HBE.out, by rw [HRS.out]; dsimp only; rw [HFA.out hl]; exact ⟨_, _, rfl, HO3.out, HU3.out⟩⟩
      · have HY2 : Hid (wr.heap[w.heap.size]? = some (.cells #[.slice none 0 0, .slice none 0 0] 43)) := (HW.out.block _ (Array.getElem?_eq_some_iff.1 HZ1.out).1).trans HZ1.out
        have f0 := frozen_rw HY2.out 0
        have f1 := frozen_rw HY2.out 1
        have z0 := cell_rw HY2.out 0 (by simp)
        have z1 := cell_rw HY2.out 1 (by simp)
        simp only [List.getElem_toArray, List.getElem_cons_succ, List.getElem_cons_zero] at z0 z1
        have HFN : Hid (fsF l key = none) := by
          have hkl : k = l.length := by omega
          have := HL.out
          rw [hkl, List.take_length] at this
          exact fsF_none this
        have HBE : Hid (Below w.heap.size w ((wr.setCell ⟨w.heap.size, 0, none⟩ (.slice none 0 0)).setCell ⟨w.heap.size, 1, none⟩ (.slice none 0 0))) := (HWW.out.setCell (by simp) _).setCell (by simp) _
        go_wp2_with fail
        exact bodyPost_ret (results_rtt rfl _ _ w.heap.size _ rfl (run_loadVar_row _ w.heap.size _ _ _ (0, 0) _ (set2 HY2.out _ _) Try.underlying43 rfl (by kernel_rfl))) rfl ⟨HBE.out, by rw [HRS.out]; dsimp only; rw [HFN.out]; rfl⟩
end Go.Proofs.Ytfgggfddehgigaa
