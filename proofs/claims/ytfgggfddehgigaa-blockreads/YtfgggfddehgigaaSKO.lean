/- The contract of Seek: what it tells is one's own. -/
import Derived.Test.YtfgggfddehgigaaBK11
namespace Go.Proofs.Ytfgggfddehgigaa
open Go.RowKit

/-- What Seek tells. -/
def SkPostO (w : World) (bs : List UInt8) (key : Ks) (e : Ending) (W' : World) : Prop :=
  Below w.heap.size w W' ∧ match rdB bs with
    | none => e = .returned (.tuple #[.agg #[.slice none 0 0, .slice none 0 0], .bool false, .int .i64 60])
    | some l => match fsF l key with
      | none => e = .returned (.tuple #[.agg #[.slice none 0 0, .slice none 0 0], .bool false, .int .i64 0])
      | some x => ∃ kv vv, e = .returned (.tuple #[.agg #[kv, vv], .bool true, .int .i64 0]) ∧ Own W' w.heap.size kv x.1 ∧ Own W' w.heap.size vv x.2
set_option maxRecDepth 100000 in
set_option maxHeartbeats 2000000 in
theorem seekO_any (v kv : Value) (bs : List UInt8) (key : Ks) (hbl : bs.length ≤ 1000000) (w : World) (hR : Reads w v bs) (hK : Reads w kv key) :
    Calls Try.prog 15 #[v, kv] w fun e W' => SkPostO w bs key e W' := by
  have HR : Hid (Reads w v bs) := hR
  have HK : Hid (Reads w kv key) := hK
  obtain ⟨a, cap, rfl, _⟩ := hR.form
  obtain ⟨ak, ck, rfl, _⟩ := hK.form
  clear hR hK
  obtain ⟨w0, HW0⟩ := hid_ex (w.alloc (.cells #[.slice none 0 0, .slice none 0 0] 38))
  have HB0 : Hid (Below w.heap.size w w0) := by rw [HW0.out]; exact (Below.refl _ _).alloc (Nat.le_refl _) _
  have HZ0 : Hid (w0.heap[w.heap.size]? = some (.cells #[.slice none 0 0, .slice none 0 0] 38)) := by rw [HW0.out]; exact World.alloc_heap_new _ _
  go_enter Try.func15, Try.ntmps15
  go_wp2_with fail
  rw [← HW0.out]
  refine (read_any _ bs hbl _ (HR.out.below HB0.out)).mono ?_
  rintro e w1 ⟨hb1, he⟩
  have HB1 : Hid (Below w.heap.size w w1) := HB0.out.trans (hb1.mono HB0.out.size)
  have HZ1 : Hid (w1.heap[w.heap.size]? = some (.cells #[.slice none 0 0, .slice none 0 0] 38)) := (hb1.block _ (Array.getElem?_eq_some_iff.1 HZ0.out).1).trans HZ0.out
  have hsz0 := HB0.out.size
  clear hb1 HB0 HZ0 HW0
  cases hrd : rdB bs with
  | none =>
    rw [hrd] at he
    dsimp only at he
    subst he
    have f0 := frozen_rw HZ1.out 0
    have f1 := frozen_rw HZ1.out 1
    have z0 := cell_rw HZ1.out 0 (by simp)
    have z1 := cell_rw HZ1.out 1 (by simp)
    simp only [List.getElem_toArray, List.getElem_cons_succ, List.getElem_cons_zero] at z0 z1
    have HBE : Hid (Below w.heap.size w ((w1.setCell ⟨w.heap.size, 0, none⟩ (.slice none 0 0)).setCell ⟨w.heap.size, 1, none⟩ (.slice none 0 0))) := (HB1.out.setCell (by simp) _).setCell (by simp) _
    have HRN : Hid (rdB bs = none) := hrd
    clear hrd
    go_wp2_with fail
    go_loopw [18] (fun i wr => wr = w1 ∧ i = .int .i64 0) (fun _ _ => 0)
    case atStart => exact ⟨rfl, rfl⟩
    case round =>
      obtain ⟨rfl, rfl⟩ := hrel
      go_wp2_with fail
      exact bodyPost_ret (results_rtt rfl _ _ w.heap.size _ rfl (run_loadVar_row _ w.heap.size _ _ _ (0, 0) _ (set2 HZ1.out _ _) Try.underlying38 rfl (by kernel_rfl))) rfl ⟨HBE.out, by rw [HRN.out]; rfl⟩
  | some l =>
    rw [hrd] at he
    obtain ⟨u, xs, rfl, hmap, hO⟩ := he
    have HRS : Hid (rdB bs = some l) := hrd
    have hat := hO.at
    rw [hmap] at hat
    clear hO hrd hmap
    obtain ⟨al, cl, rfl, hcl, hml, h3⟩ := hat
    unfold maxLen at hml
    have H3 : Hid _ := h3
    clear h3
    go_wp2_with fail
    go_loopw [18] (fun i wr => ∃ k : Nat, k ≤ l.length ∧ i = .int .i64 (k : Int) ∧ Hid (∀ x ∈ l.take k, ltK x.1 key) ∧ Hid (Below w1.heap.size w1 wr)) (fun i _ => l.length - (intOf i).toNat)
    case atStart => exact ⟨0, by omega, rfl, fun x hx => by simp at hx, Below.refl _ _⟩
    case round =>
      obtain ⟨k, hk, rfl, HL, HW⟩ := hrel
      have HWW : Hid (Below w.heap.size w wr) := HB1.out.trans (HW.out.mono HB1.out.size)
      by_cases hlt : k < l.length
      · obtain ⟨bA, oA, rfl, hbA, hA⟩ := H3.out.resolve_left (fun h => by rw [h] at hlt; simp at hlt)
        obtain ⟨kx, vx, q0, q1, r0, r1⟩ := hA k hlt
        have HFA : Hid (¬ ltK l[k].1 key → fsF l key = some l[k]) := fun h => fsF_at hlt HL.out h
        obtain ⟨X, HX⟩ := hid_ex l[k]
        rw [← HX.out] at r0 r1 HFA
        have HTk : Hid (l.take (k + 1) = l.take k ++ [X]) := by unfold Hid; rw [List.take_add_one, List.getElem?_eq_getElem hlt, HX.out]; rfl
        have c0 := (HW.out.cell (p := ⟨bA, oA + k * 2, none⟩) hbA).trans q0
        have c1 := (HW.out.cell (p := ⟨bA, oA + k * 2 + 1, none⟩) hbA).trans q1
        have HR0 : Hid (Own w1 w0.heap.size kx X.1) := r0
        have HR1 : Hid (Own w1 w0.heap.size vx X.2) := r1
        obtain ⟨a1, c1', rfl, _⟩ := r0.form
        obtain ⟨a2, c2', rfl, _⟩ := r1.form
        clear hA q0 q1 r0 r1 HX
        obtain ⟨w2, HW2⟩ := hid_ex (wr.alloc (.cells #[.slice a1 X.1.length c1', .slice a2 X.2.length c2'] 38))
        have HW2' : Hid (Below w1.heap.size w1 w2) := by rw [HW2.out]; exact HW.out.alloc HW.out.size _
        have HB2 : Hid (Below w.heap.size w w2) := by rw [HW2.out]; exact HWW.out.alloc HWW.out.size _
        have HZ2 : Hid (w2.heap[wr.heap.size]? = some (.cells #[.slice a1 X.1.length c1', .slice a2 X.2.length c2'] 38)) := by rw [HW2.out]; exact World.alloc_heap_new _ _
        have HY2 : Hid (w2.heap[w.heap.size]? = some (.cells #[.slice none 0 0, .slice none 0 0] 38)) := (HW2'.out.block _ (Array.getElem?_eq_some_iff.1 HZ1.out).1).trans HZ1.out
        go_wp2_with fail
        rw [← HW2.out]
        refine (cmp_any _ _ X.1 key _ (HR0.out.below HW2'.out).reads (HK.out.below HB2.out)).mono ?_
        rintro e w3 ⟨rfl, hw3⟩
        subst w3
        clear c0 c1 HW2
        by_cases hl : ltK X.1 key
        · have hc : Lib.compareBytes X.1 key = -1 := hl
          rw [hc]
          go_wp2_with fail
          go_roundw
          case rel =>
            refine ⟨k + 1, by omega, by go_num, ?_, HW2'⟩
            rw [HTk.out]
            intro y hy
            rcases List.mem_append.1 hy with hy | hy
            · exact HL.out y hy
            · simp at hy; subst hy; exact hl
          case measure => simp [intOf]; omega
        · have hc : 0 ≤ Lib.compareBytes X.1 key := cmp_ge.2 hl
          have y0 := cell_rw HZ2.out 0 (by simp)
          have y1 := cell_rw HZ2.out 1 (by simp)
          have f0 := frozen_rw HY2.out 0
          have f1 := frozen_rw HY2.out 1
          have z0 := cell_rw HY2.out 0 (by simp)
          have z1 := cell_rw HY2.out 1 (by simp)
          simp only [List.getElem_toArray, List.getElem_cons_succ, List.getElem_cons_zero] at y0 y1 z0 z1
          have HP3 : Hid _ := set2 HY2.out (.slice a1 X.1.length c1') (.slice a2 X.2.length c2')
          have HO3 : Hid (Own ((w2.setCell ⟨w.heap.size, 0, none⟩ (.slice a1 X.1.length c1')).setCell ⟨w.heap.size, 1, none⟩ (.slice a2 X.2.length c2')) w0.heap.size (.slice a1 X.1.length c1') X.1) := own_setB _ (own_setB _ (HR0.out.below HW2'.out) HY2.out (by decide)) (Go.heap_setCell_same w2 w.heap.size 0 _ _ _ HY2.out) (by decide)
          have HU3 : Hid (Own ((w2.setCell ⟨w.heap.size, 0, none⟩ (.slice a1 X.1.length c1')).setCell ⟨w.heap.size, 1, none⟩ (.slice a2 X.2.length c2')) w0.heap.size (.slice a2 X.2.length c2') X.2) := own_setB _ (own_setB _ (HR1.out.below HW2'.out) HY2.out (by decide)) (Go.heap_setCell_same w2 w.heap.size 0 _ _ _ HY2.out) (by decide)
          have HBE : Hid (Below w.heap.size w ((w2.setCell ⟨w.heap.size, 0, none⟩ (.slice a1 X.1.length c1')).setCell ⟨w.heap.size, 1, none⟩ (.slice a2 X.2.length c2'))) := (HB2.out.setCell (by simp) _).setCell (by simp) _
          go_wp2_with fail
          exact bodyPost_ret (results_rtt rfl _ _ w.heap.size _ rfl (run_loadVar_row _ w.heap.size _ _ _ (0, 0) _ HP3.out Try.underlying38 rfl (by kernel_rfl))) rfl ⟨HBE.out, by rw [HRS.out]; dsimp only; rw [HFA.out hl]; exact ⟨_, _, rfl, HO3.out.mono hsz0, HU3.out.mono hsz0⟩⟩
      · have HY2 : Hid (wr.heap[w.heap.size]? = some (.cells #[.slice none 0 0, .slice none 0 0] 38)) := (HW.out.block _ (Array.getElem?_eq_some_iff.1 HZ1.out).1).trans HZ1.out
        have f0 := frozen_rw HY2.out 0
        have f1 := frozen_rw HY2.out 1
        have z0 := cell_rw HY2.out 0 (by simp)
        have z1 := cell_rw HY2.out 1 (by simp)
        simp only [List.getElem_toArray, List.getElem_cons_succ, List.getElem_cons_zero] at z0 z1
        have HFN : Hid (fsF l key = none) := by
          have hkl : k = l.length := by omega
          have := HL.out
          rw [hkl, List.take_length] at this
          exact fsF_none this
        have HBE : Hid (Below w.heap.size w ((wr.setCell ⟨w.heap.size, 0, none⟩ (.slice none 0 0)).setCell ⟨w.heap.size, 1, none⟩ (.slice none 0 0))) := (HWW.out.setCell (by simp) _).setCell (by simp) _
        go_wp2_with fail
        exact bodyPost_ret (results_rtt rfl _ _ w.heap.size _ rfl (run_loadVar_row _ w.heap.size _ _ _ (0, 0) _ (set2 HY2.out _ _) Try.underlying38 rfl (by kernel_rfl))) rfl ⟨HBE.out, by rw [HRS.out]; dsimp only; rw [HFN.out]; rfl⟩
end Go.Proofs.Ytfgggfddehgigaa
