/- The contract of the reference's three. -/
import Derived.Test.YtfgggfddehgigaaC1q
import Derived.Test.YtfgggfddehgigaaBK11
namespace Go.Proofs.Ytfgggfddehgigaa
open Go.RowKit

/-- What three short numbers have taken so far, and they. -/
def tS (b : List UInt8) : Nat → Nat × Array Value
  | 0 => (0, #[.int .i64 0, .int .i64 0, .int .i64 0])
  | j + 1 => ((tS b j).1 + (rsF (b.drop (tS b j).1) 0 0).2.1, (tS b j).2.setIfInBounds j (.int .i64 ((rsF (b.drop (tS b j).1) 0 0).1 : Nat)))
/-- Were they there so far? -/
def tO (b : List UInt8) : Nat → Prop
  | 0 => True
  | j + 1 => tO b j ∧ ¬ ((rsF (b.drop (tS b j).1) 0 0).2.2 ≠ 0 ∨ 4096 < (rsF (b.drop (tS b j).1) 0 0).1)
theorem tS_size (b : List UInt8) : ∀ j, (tS b j).2.size = 3
  | 0 => rfl
  | j + 1 => by rw [tS]; simp [tS_size b j]
theorem tO_le {b : List UInt8} : ∀ {j}, tO b j → (tS b j).1 ≤ b.length
  | 0, _ => by simp [tS]
  | j + 1, h => by
    have h1 := tO_le h.1
    have h2 := rs_back h.2
    have h3 := h2.2.2.1
    rw [List.length_drop] at h3
    rw [tS]; simp only; omega
theorem tO_mono {b : List UInt8} : ∀ {i j : Nat}, tO b i → j ≤ i → tO b j
  | i, j, h, hij => by
    induction i with
    | zero => have : j = 0 := by omega
              subst this; exact h
    | succ i ih =>
      by_cases e : j = i + 1
      · subst e; exact h
      · exact ih h.1 (by omega)
theorem th3_no {b : List UInt8} (h : ¬ tO b 3) : th3 b = none := by
  unfold th3
  simp only
  split
  · rfl
  · split
    · rfl
    · split
      · rfl
      · rename_i h0 h1 h2
        exfalso
        apply h
        simp only [tO, tS, List.drop_zero, Nat.zero_add]
        exact ⟨⟨⟨trivial, h0⟩, h1⟩, h2⟩
theorem th3_yes {b : List UInt8} (h : tO b 3) : ∃ s m v, th3 b = some (s, m, v, (tS b 3).1) ∧ (tS b 3).2 = #[.int .i64 (s : Nat), .int .i64 (m : Nat), .int .i64 (v : Nat)] ∧ s ≤ 4096 ∧ m ≤ 4096 ∧ v ≤ 4096 := by
  simp only [tO, tS, List.drop_zero, Nat.zero_add] at h
  obtain ⟨⟨⟨_, h0⟩, h1⟩, h2⟩ := h
  refine ⟨(rsF b 0 0).1, (rsF (b.drop (rsF b 0 0).2.1) 0 0).1, (rsF (b.drop ((rsF b 0 0).2.1 + (rsF (b.drop (rsF b 0 0).2.1) 0 0).2.1)) 0 0).1, ?_, ?_, by omega, by omega, by omega⟩
  · unfold th3
    simp only [tS, List.drop_zero, Nat.zero_add]
    rw [if_neg h0, if_neg h1, if_neg h2]
  · simp [tS]
/-- What three answers. -/
def ThPost (w0 w : World) (b : List UInt8) (e : Ending) (w' : World) : Prop := Below w.heap.size w w' ∧
  match th3 b with
  | none => ∃ x y z, e = .returned (.tuple #[.agg #[.int .i64 x, .int .i64 y, .int .i64 z], .slice none 0 0, .bool false])
  | some (s, m, v, t) => ∃ u, e = .returned (.tuple #[.agg #[.int .i64 (s : Nat), .int .i64 (m : Nat), .int .i64 (v : Nat)], u, .bool true]) ∧ Reads w0 u (b.drop t)
theorem tS_ints (b : List UInt8) (j : Nat) : ∃ x y z, (tS b j).2 = #[.int .i64 x, .int .i64 y, .int .i64 z] := by
  induction j with
  | zero => exact ⟨0, 0, 0, rfl⟩
  | succ j ih =>
    obtain ⟨x, y, z, h⟩ := ih
    rw [tS, h]
    match j with
    | 0 => exact ⟨_, y, z, rfl⟩
    | 1 => exact ⟨x, _, z, rfl⟩
    | 2 => exact ⟨x, y, _, rfl⟩
    | n + 3 => exact ⟨x, y, z, by simp [Array.setIfInBounds]⟩
theorem set3 {w : World} {b : Nat} {T : TypeId} {x0 x1 x2 : Value} (h : w.heap[b]? = some (.cells #[x0, x1, x2] T)) (v0 v1 v2 : Value) :
    (((w.setCell ⟨b, 0, none⟩ v0).setCell ⟨b, 1, none⟩ v1).setCell ⟨b, 2, none⟩ v2).heap[b]? = some (.cells #[v0, v1, v2] T) := by
  have h0 := Go.heap_setCell_same w b 0 _ _ v0 h
  have h1 := Go.heap_setCell_same _ b 1 _ _ v1 h0
  have h2 := Go.heap_setCell_same _ b 2 _ _ v2 h1
  simpa using h2
theorem set3_belowR {B : Nat} {w w' : World} {b : Nat} {x y z : Value} (h : Below B w w') (hb : B ≤ b) : Below B w (((w'.setCell ⟨b, 0, none⟩ x).setCell ⟨b, 1, none⟩ y).setCell ⟨b, 2, none⟩ z) := ((h.setCell hb x).setCell hb y).setCell hb z
theorem heap_two (w : World) (o1 o2 : Obj) : ((w.alloc o1).alloc o2).heap[w.heap.size + 1]? = some o2 ∧ ((w.alloc o1).alloc o2).heap[w.heap.size]? = some o1 := by
  have h1 := World.alloc_heap_new (w.alloc o1) o2
  rw [show (w.alloc o1).heap.size = w.heap.size + 1 by simp] at h1
  refine ⟨h1, ?_⟩
  have h2 := World.alloc_heap_new w o1
  have hb := (Below.refl (w.alloc o1).heap.size (w.alloc o1)).alloc (Nat.le_refl _) o2
  rw [hb.block w.heap.size (by simp)]; exact h2
set_option maxRecDepth 100000 in
set_option maxHeartbeats 4000000 in
theorem three_any (v : Value) (b : List UInt8) (w0 w : World) (hw : Below w0.heap.size w0 w) (hR : Reads w0 v b) :
    Calls Try.prog 25 #[v] w fun e w' => ThPost w0 w b e w' := by
  have HW0 : Hid (Below w0.heap.size w0 w) := hw
  clear hw
  have HR : Hid (Reads w0 v b) := hR
  obtain ⟨a, cap, rfl, hm⟩ := hR.form
  unfold maxLen at hm
  clear hR
  go_enter Try.func25, Try.ntmps25
  go_wp2_with fail
  go_loopw [0, 6] (fun vb i wr => ∃ j : Nat, j ≤ 3 ∧ i = .int .i64 (j : Int) ∧ Hid (tO b j) ∧ Hid (Reads w0 vb (b.drop (tS b j).1)) ∧ Hid (wr.heap[w.heap.size + 1]? = some (.cells (tS b j).2 51)) ∧ Hid (wr.heap[w.heap.size]? = some (.cells #[.int .i64 0, .int .i64 0, .int .i64 0] 51)) ∧ Hid (Below w.heap.size w wr)) (fun _ i _ => 3 - (intOf i).toNat)
  case atStart =>
    refine ⟨0, by omega, rfl, trivial, ?_, ?_, ?_, ((Below.refl _ _).alloc (Nat.le_refl _) _).alloc (by simp) _⟩
    · rw [tS, List.drop_zero]; exact HR
    · exact (heap_two w _ _).1
    · exact (heap_two w _ _).2
  case round =>
    rename World => wo
    obtain ⟨j, hj, rfl, HO, HRb, HA, HZ, HB⟩ := hrel
    obtain ⟨B, HBB⟩ := hid_ex (b.drop (tS b j).1)
    rw [← HBB.out] at HRb
    obtain ⟨ab, cb, rfl, hmb⟩ := HRb.out.form
    unfold maxLen at hmb
    by_cases hlt : j < 3
    · have hji : (j : Int) < 3 := by omega
      go_wp2_with fail
      refine (refReadShort_any _ _ _ (HRb.out.below (HW0.out.trans (HB.out.mono HW0.out.size)))).mono ?_
      rintro e w1 ⟨rfl, hb1⟩
      have HB1 : Hid (Below w.heap.size w w1) := HB.out.trans (hb1.mono HB.out.size)
      have HA1 : Hid (w1.heap[w.heap.size + 1]? = some (.cells (tS b j).2 51)) := (hb1.block _ (Array.getElem?_eq_some_iff.1 HA.out).1).trans HA.out
      have HZ1 : Hid (w1.heap[w.heap.size]? = some (.cells #[.int .i64 0, .int .i64 0, .int .i64 0] 51)) := (hb1.block _ (Array.getElem?_eq_some_iff.1 HZ.out).1).trans HZ.out
      clear hb1 HB HA HZ
      obtain ⟨r, HRR⟩ := hid_ex (rsF B 0 0)
      have HSt : Hid (tS b (j + 1) = ((tS b j).1 + r.2.1, (tS b j).2.setIfInBounds j (.int .i64 (r.1 : Nat)))) := by unfold Hid; rw [tS, ← HBB.out, ← HRR.out]
      have HOt : Hid (tO b (j + 1) ↔ tO b j ∧ ¬ (r.2.2 ≠ 0 ∨ 4096 < r.1)) := by unfold Hid; rw [tO, ← HBB.out, ← HRR.out]
      have HRl : Hid (¬ (r.2.2 ≠ 0 ∨ 4096 < r.1) → r.2.1 ≤ B.length) := by unfold Hid; rw [HRR.out]; exact fun h => (rs_back h).2.2.1
      rw [← HRR.out]
      obtain ⟨rn, ru, re⟩ := r
      have HI3 : Hid (∃ x y z, (tS b j).2 = #[.int .i64 x, .int .i64 y, .int .i64 z]) := tS_ints b j
      obtain ⟨x, y, z, hxyz⟩ := HI3.out
      rw [hxyz] at HA1 HSt
      clear hxyz HI3
      have z0 := cell_rw HA1.out 0 (by simp)
      have z1 := cell_rw HA1.out 1 (by simp)
      have z2 := cell_rw HA1.out 2 (by simp)
      have y0 := cell_rw HZ1.out 0 (by simp)
      have y1 := cell_rw HZ1.out 1 (by simp)
      have y2 := cell_rw HZ1.out 2 (by simp)
      have f0 := frozen_rw HZ1.out 0
      have f1 := frozen_rw HZ1.out 1
      have f2 := frozen_rw HZ1.out 2
      simp only [List.getElem_toArray, List.getElem_cons_succ, List.getElem_cons_zero] at z0 z1 z2 y0 y1 y2
      by_cases e1 : re = 0
      · by_cases e2 : (4096 : Int) < (rn : Int)
        · subst e1
          have HN : Hid (th3 b = none) := th3_no (fun h => (HOt.out.1 (tO_mono h (by omega))).2 (.inr (by simp; omega)))
          go_wp2_with fail
          exact bodyPost_ret (results_rtt rfl _ _ w.heap.size _ rfl (run_loadVar_row _ w.heap.size _ _ _ (0, 0) _ (set3 HZ1.out _ _ _) Try.underlying51 rfl (by kernel_rfl))) rfl ⟨set3_belowR HB1.out (Nat.le_refl _), by rw [HN.out]; exact ⟨x, y, z, rfl⟩⟩
        · subst e1
          have HT : Hid (tO b (j + 1)) := HOt.out.2 ⟨HO.out, by simp; omega⟩
          have hru : ru ≤ B.length := HRl.out (by simp; omega)
          obtain ⟨ad, cd, hsl, hrd⟩ := sl_from (c := ru) HRb.out hru
          have HRd : Hid (Reads w0 (.slice ad (B.length - ru) cd) (B.drop ru)) := hrd
          clear hrd
          have g0 := frozen_rw HA1.out j
          have g1 := cell_rw HA1.out j (by simp; omega)
          clear z0 z1 z2 y0 y1 y2 f0 f1 f2
          go_wp2_with fail
          go_roundw
          case rel =>
            refine ⟨j + 1, by omega, by go_num, HT, ?_, ?_, ?_, ?_⟩
            · rw [HSt.out]
              show Hid (Reads w0 _ (b.drop ((tS b j).1 + ru)))
              rw [← List.drop_drop, ← HBB.out]; exact HRd
            · rw [HSt.out]
              exact Go.heap_setCell_same _ _ _ _ _ _ HA1.out
            · unfold Hid
              rw [Go.heap_setCell_other _ _ _ _ (by simp)]
              exact HZ1.out
            · exact HB1.out.setCell (by simp) _
          case measure => simp [intOf]; omega
      · have HN : Hid (th3 b = none) := th3_no (fun h => (HOt.out.1 (tO_mono h (by omega))).2 (.inl (by simpa using e1)))
        go_wp2_with fail
        exact bodyPost_ret (results_rtt rfl _ _ w.heap.size _ rfl (run_loadVar_row _ w.heap.size _ _ _ (0, 0) _ (set3 HZ1.out _ _ _) Try.underlying51 rfl (by kernel_rfl))) rfl ⟨set3_belowR HB1.out (Nat.le_refl _), by rw [HN.out]; exact ⟨x, y, z, rfl⟩⟩
    · have hj3 : j = 3 := by omega
      subst hj3
      obtain ⟨sx, mx, vx, HT3, hA3, _, _, _⟩ := th3_yes HO.out
      rw [hA3] at HA
      have z0 := cell_rw HA.out 0 (by simp)
      have z1 := cell_rw HA.out 1 (by simp)
      have z2 := cell_rw HA.out 2 (by simp)
      have y0 := cell_rw HZ.out 0 (by simp)
      have y1 := cell_rw HZ.out 1 (by simp)
      have y2 := cell_rw HZ.out 2 (by simp)
      have f0 := frozen_rw HZ.out 0
      have f1 := frozen_rw HZ.out 1
      have f2 := frozen_rw HZ.out 2
      simp only [List.getElem_toArray, List.getElem_cons_succ, List.getElem_cons_zero] at z0 z1 z2 y0 y1 y2
      have H3 : Hid _ := HT3
      clear HT3 hA3
      go_wp2_with fail
      exact bodyPost_ret (results_rtt rfl _ _ w.heap.size _ rfl (run_loadVar_row _ w.heap.size _ _ _ (0, 0) _ (set3 HZ.out _ _ _) Try.underlying51 rfl (by kernel_rfl))) rfl ⟨set3_belowR HB.out (Nat.le_refl _), by rw [H3.out]; exact ⟨_, rfl, Eq.mp (congrArg (Reads _ (.slice ab B.length cb)) HBB.out) HRb.out⟩⟩
end Go.Proofs.Ytfgggfddehgigaa
