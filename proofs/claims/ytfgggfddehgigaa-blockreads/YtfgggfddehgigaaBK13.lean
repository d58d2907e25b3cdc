/- Common, with the world told; Same, of any two lists. -/
import Derived.Test.YtfgggfddehgigaaBK12
import Derived.Test.YtfgggfddehgigaaBSk
namespace Go.Proofs.Ytfgggfddehgigaa
open Go.RowKit

set_option maxRecDepth 100000 in
set_option maxHeartbeats 1000000 in
theorem common_q (va vb : Value) (a b : Ks) (w : World) (ha : Reads w va a) (hb : Reads w vb b) :
    Calls Try.prog 11 #[va, vb] w fun e w' => e = .returned (.int .i64 ((com a b : Nat) : Int)) ∧ ∃ m, w' = w.drewN m := by
  obtain ⟨aa, ca, rfl, hma⟩ := ha.form
  obtain ⟨ab, cb, rfl, hmb⟩ := hb.form
  unfold maxLen at hma hmb
  have HA : Hid (Reads w (.slice aa a.length ca) a) := ha
  have HB : Hid (Reads w (.slice ab b.length cb) b) := hb
  clear ha hb
  go_enter Try.func11, Try.ntmps11
  go_wp2_with fail
  go_loopw [5] (fun i wr => (∃ m, wr = w.drewN m) ∧ ∃ k : Nat, k ≤ a.length ∧ k ≤ b.length ∧ i = .int .i64 (k : Int) ∧ Hid (∀ j (g1 : j < a.length) (g2 : j < b.length), j < k → a[j] = b[j])) (fun i _ => a.length - (intOf i).toNat)
  case atStart => exact ⟨⟨0, rfl⟩, 0, by omega, by omega, rfl, fun j _ _ h => by omega⟩
  case round =>
    obtain ⟨⟨md, rfl⟩, k, h1, h2, rfl, HE⟩ := hrel
    by_cases g1 : k < a.length
    · by_cases g2 : k < b.length
      · obtain ⟨b1, o1, rfl, _, c1⟩ := HA.out.at k g1
        obtain ⟨b2, o2, rfl, _, c2⟩ := HB.out.at k g2
        have d1 := c1
        have d2 := c2
        clear c1 c2
        unfold bc at d1 d2
        obtain ⟨x, HX⟩ := hid_ex a[k]
        obtain ⟨y, HY⟩ := hid_ex b[k]
        rw [← HX.out] at d1
        rw [← HY.out] at d2
        by_cases hxy : (x.toNat : Int) = (y.toNat : Int)
        · go_wp2_with fail
          go_quiet (fail)
          have HW2 : ∃ m, (w.drewN md).drewN nq = w.drewN m := ⟨md + nq, World.drewN_drewN _ _ _⟩
          go_wp2_with fail
          go_roundw
          case rel =>
            refine ⟨⟨md + nq, rfl⟩, k + 1, by omega, by omega, by go_num, fun j g3 g4 hj => ?_⟩
            by_cases hjk : j < k
            · exact HE.out j g3 g4 hjk
            · have : j = k := by omega
              subst this
              rw [← HX.out, ← HY.out]
              exact UInt8.toNat_inj.1 (by omega)
          case measure => simp [intOf]; omega
        · go_wp2_with fail
          go_quiet (fail)
          have HW2 : ∃ m, (w.drewN md).drewN nq = w.drewN m := ⟨md + nq, World.drewN_drewN _ _ _⟩
          go_wp2_with fail
          go_ret
          rw [com_eq h1 h2 HE.out (fun g1 g2 => by rw [← HX.out, ← HY.out]; intro h; rw [h] at hxy; exact hxy rfl)]
          exact ⟨rfl, HW2⟩
      · go_wp2_with fail
        go_quiet (fail)
        have HW2 : ∃ m, (w.drewN md).drewN nq = w.drewN m := ⟨md + nq, World.drewN_drewN _ _ _⟩
        go_wp2_with fail
        go_ret
        rw [com_eq h1 h2 HE.out (fun _ g => absurd g g2)]
        exact ⟨rfl, HW2⟩
    · go_wp2_with fail
      go_quiet (fail)
      have HW2 : ∃ m, (w.drewN md).drewN nq = w.drewN m := ⟨md + nq, World.drewN_drewN _ _ _⟩
      go_wp2_with fail
      go_ret
      rw [com_eq h1 h2 HE.out (fun g _ => absurd g g1)]
      exact ⟨rfl, HW2⟩
set_option maxRecDepth 100000 in
set_option maxHeartbeats 2000000 in
theorem same_any (va vb : Value) (L M : List Pr) (w : World) (hA : PReads w va L) (hB : PReads w vb M) :
    Calls Try.prog 18 #[va, vb] w fun e w' => e = .returned (.bool (decide (L = M))) ∧ Below w.heap.size w w' := by
  obtain ⟨dq, HDQ⟩ := hid_ex (decide (L = M))
  rw [← HDQ.out]
  obtain ⟨a, ca, rfl, hca, hma, hA3⟩ := hA
  obtain ⟨b, cb, rfl, hcb, hmb, hB3⟩ := hB
  unfold maxLen at hma hmb
  have HA3 : Hid _ := hA3
  have HB3 : Hid _ := hB3
  clear hA3 hB3
  go_enter Try.func18, Try.ntmps18
  by_cases hLM : ¬ (L.length : Int) = (M.length : Int)
  · go_wp2_with fail
    go_ret
    have : dq = false := by rw [HDQ.out]; exact decide_eq_false (fun e => hLM (by rw [e]))
    rw [this]
    exact ⟨rfl, Below.refl _ _⟩
  have HLM : Hid (L.length = M.length) := by unfold Hid; omega
  rw [← HLM.out] at hcb
  have hLM2 := HLM.out
  clear hLM
  go_wp2_with fail
  go_loopw [5] (fun i wr => ∃ k : Nat, k ≤ L.length ∧ i = .int .i64 (k : Int) ∧ Hid (L.take k = M.take k) ∧ Hid (Below w.heap.size w wr)) (fun i _ => L.length - (intOf i).toNat)
  case atStart => exact ⟨0, by omega, rfl, by simp [Hid], Below.refl _ _⟩
  case round =>
    obtain ⟨k, hk, rfl, HT, HW⟩ := hrel
    by_cases hlt : k < L.length
    · have hlt2 : k < M.length := by omega
      obtain ⟨bA, oA, rfl, hbA, hA⟩ := HA3.out.resolve_left (fun h => by rw [h] at hlt; simp at hlt)
      obtain ⟨bB, oB, rfl, hbB, hB⟩ := HB3.out.resolve_left (fun h => by rw [h] at hlt2; simp at hlt2)
      obtain ⟨kv, vv, q0, q1, r0, r1⟩ := hA k hlt
      obtain ⟨kv', vv', q0', q1', r0', r1'⟩ := hB k hlt2
      obtain ⟨X, HX⟩ := hid_ex L[k]
      obtain ⟨Y, HY⟩ := hid_ex M[k]
      rw [← HX.out] at r0 r1
      rw [← HY.out] at r0' r1'
      have HTN : Hid (X = Y → L.take (k + 1) = M.take (k + 1)) := fun e => by rw [List.take_add_one, List.take_add_one, List.getElem?_eq_getElem hlt, List.getElem?_eq_getElem hlt2, HT.out, ← HX.out, ← HY.out, e]
      have HNE : Hid (X ≠ Y → dq = false) := fun e => by rw [HDQ.out]; exact decide_eq_false (fun h => e (by rw [HX.out, HY.out]; simp only [h]))
      have c0 := (HW.out.cell (p := ⟨bA, oA + k * 2, none⟩) hbA).trans q0
      have c1 := (HW.out.cell (p := ⟨bA, oA + k * 2 + 1, none⟩) hbA).trans q1
      have d0 := (HW.out.cell (p := ⟨bB, oB + k * 2, none⟩) hbB).trans q0'
      have d1 := (HW.out.cell (p := ⟨bB, oB + k * 2 + 1, none⟩) hbB).trans q1'
      obtain ⟨a1, c1', rfl, _⟩ := r0.form
      obtain ⟨a2, c2', rfl, _⟩ := r1.form
      obtain ⟨a3, c3', rfl, _⟩ := r0'.form
      obtain ⟨a4, c4', rfl, _⟩ := r1'.form
      have hq1 : ∀ n, (convert 23 9 (.slice a1 X.1.length c1')).run Try.prog (wr.drewN n) = .ok (.string ⟨X.1.toArray⟩) (wr.drewN n) := fun n => reads_text (r0.below (below_drewN HW.out n))
      have hq2 : ∀ n, (convert 23 9 (.slice a2 X.2.length c2')).run Try.prog (wr.drewN n) = .ok (.string ⟨X.2.toArray⟩) (wr.drewN n) := fun n => reads_text (r1.below (below_drewN HW.out n))
      have hq3 : ∀ n, (convert 23 9 (.slice a3 Y.1.length c3')).run Try.prog (wr.drewN n) = .ok (.string ⟨Y.1.toArray⟩) (wr.drewN n) := fun n => reads_text (r0'.below (below_drewN HW.out n))
      have hq4 : ∀ n, (convert 23 9 (.slice a4 Y.2.length c4')).run Try.prog (wr.drewN n) = .ok (.string ⟨Y.2.toArray⟩) (wr.drewN n) := fun n => reads_text (r1'.below (below_drewN HW.out n))
      clear hA hB q0 q1 q0' q1' r0 r1 r0' r1' HX HY
      by_cases h1 : X.1 = Y.1
      · have hb1 : (X.1 == Y.1) = true := by simp [h1]
        by_cases h2 : X.2 = Y.2
        · have hb2 : (X.2 == Y.2) = true := by simp [h2]
          have HTE := HTN.out (Prod.ext h1 h2)
          have HTT : Hid _ := HTE
          clear h1 h2 HTE
          go_wp2_with fail
          go_quiet (fail)
          have HW2 : Hid (Below w.heap.size w (wr.drewN nq)) := below_drewN HW.out nq
          clear hq1 hq2 hq3 hq4 c0 c1 d0 d1
          (try rw [hb1])
          (try rw [hb2])
          go_wp2_with fail
          go_roundw
          case rel => exact ⟨k + 1, by omega, by go_num, HTT, HW2⟩
          case measure => simp [intOf]; omega
        · have hb2 : (X.2 == Y.2) = false := by simp [h2]
          have hdf := HNE.out (fun e => h2 (by rw [e]))
          subst hdf
          clear h1 h2
          go_wp2_with fail
          go_quiet (fail)
          have HW2 : Hid (Below w.heap.size w (wr.drewN nq)) := below_drewN HW.out nq
          clear hq1 hq2 hq3 hq4 c0 c1 d0 d1
          (try rw [hb1])
          (try rw [hb2])
          go_wp2_with fail
          go_ret
          exact ⟨rfl, HW2.out⟩
      · have hb1 : (X.1 == Y.1) = false := by simp [h1]
        have hdf := HNE.out (fun e => h1 (by rw [e]))
        subst hdf
        clear h1
        go_wp2_with fail
        go_quiet (fail)
        have HW2 : Hid (Below w.heap.size w (wr.drewN nq)) := below_drewN HW.out nq
        clear hq1 hq2 hq3 hq4 c0 c1 d0 d1
        (try rw [hb1])
        go_wp2_with fail
        go_ret
        exact ⟨rfl, HW2.out⟩
    · have hdt : dq = true := by
        rw [HDQ.out]
        apply decide_eq_true
        have := HT.out
        rwa [List.take_of_length_le (by omega), List.take_of_length_le (by omega)] at this
      subst hdt
      go_wp2_with fail
      go_ret
      exact ⟨rfl, HW.out⟩
end Go.Proofs.Ytfgggfddehgigaa
