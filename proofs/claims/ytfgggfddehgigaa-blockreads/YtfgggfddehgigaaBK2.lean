/- The contracts of Common and saved. -/
import Derived.Test.YtfgggfddehgigaaOP
import Derived.Test.YtfgggfddehgigaaRT
import Derived.BigQuiet
import Derived.Deep.QuietTactic
namespace Go.Proofs.Ytfgggfddehgigaa
open Go.RowKit

set_option maxRecDepth 100000 in
set_option maxHeartbeats 1000000 in
theorem common_any (va vb : Value) (a b : Ks) (w : World) (ha : Reads w va a) (hb : Reads w vb b) :
    Calls Try.prog 11 #[va, vb] w fun e w' => e = .returned (.int .i64 ((com a b : Nat) : Int)) ∧ Below w.heap.size w w' := by
  obtain ⟨aa, ca, rfl, hma⟩ := ha.form
  obtain ⟨ab, cb, rfl, hmb⟩ := hb.form
  unfold maxLen at hma hmb
  have HA : Hid (Reads w (.slice aa a.length ca) a) := ha
  have HB : Hid (Reads w (.slice ab b.length cb) b) := hb
  clear ha hb
  go_enter Try.func11, Try.ntmps11
  go_wp2_with fail
  go_loopw [5] (fun i wr => Hid (Below w.heap.size w wr) ∧ ∃ k : Nat, k ≤ a.length ∧ k ≤ b.length ∧ i = .int .i64 (k : Int) ∧ Hid (∀ j (g1 : j < a.length) (g2 : j < b.length), j < k → a[j] = b[j])) (fun i _ => a.length - (intOf i).toNat)
  case atStart => exact ⟨Below.refl _ _, 0, by omega, by omega, rfl, fun j _ _ h => by omega⟩
  case round =>
    obtain ⟨HW, k, h1, h2, rfl, HE⟩ := hrel
    by_cases g1 : k < a.length
    · by_cases g2 : k < b.length
      · obtain ⟨b1, o1, rfl, l1, c1⟩ := HA.out.at k g1
        obtain ⟨b2, o2, rfl, l2, c2⟩ := HB.out.at k g2
        have d1 := (HW.out.cell (p := ⟨b1, o1 + k, none⟩) l1).trans c1
        have d2 := (HW.out.cell (p := ⟨b2, o2 + k, none⟩) l2).trans c2
        unfold bc at d1 d2
        clear c1 c2
        obtain ⟨x, HX⟩ := hid_ex a[k]
        obtain ⟨y, HY⟩ := hid_ex b[k]
        rw [← HX.out] at d1
        rw [← HY.out] at d2
        by_cases hxy : (x.toNat : Int) = (y.toNat : Int)
        · go_wp2_with fail
          go_quiet (fail)
          have HW2 : Hid (Below w.heap.size w (wr.drewN nq)) := below_drewN HW.out nq
          go_wp2_with fail
          go_roundw
          case rel =>
            refine ⟨HW2, k + 1, by omega, by omega, by go_num, fun j g3 g4 hj => ?_⟩
            by_cases hjk : j < k
            · exact HE.out j g3 g4 hjk
            · have : j = k := by omega
              subst this
              rw [← HX.out, ← HY.out]
              exact UInt8.toNat_inj.1 (by omega)
          case measure => simp [intOf]; omega
        · go_wp2_with fail
          go_quiet (fail)
          have HW2 : Hid (Below w.heap.size w (wr.drewN nq)) := below_drewN HW.out nq
          go_wp2_with fail
          go_ret
          rw [com_eq h1 h2 HE.out (fun g1 g2 => by rw [← HX.out, ← HY.out]; intro h; rw [h] at hxy; exact hxy rfl)]
          exact ⟨rfl, HW2.out⟩
      · go_wp2_with fail
        go_quiet (fail)
        have HW2 : Hid (Below w.heap.size w (wr.drewN nq)) := below_drewN HW.out nq
        go_wp2_with fail
        go_ret
        rw [com_eq h1 h2 HE.out (fun _ g => absurd g g2)]
        exact ⟨rfl, HW2.out⟩
    · go_wp2_with fail
      go_quiet (fail)
      have HW2 : Hid (Below w.heap.size w (wr.drewN nq)) := below_drewN HW.out nq
      go_wp2_with fail
      go_ret
      rw [com_eq h1 h2 HE.out (fun g _ => absurd g g1)]
      exact ⟨rfl, HW2.out⟩
set_option maxRecDepth 100000 in
set_option maxHeartbeats 1000000 in
theorem saved_any (i : Nat) (hi : i < 9223372036854775808) (va vb : Value) (a b : Ks) (w : World) (ha : Reads w va a) (hb : Reads w vb b) :
    Calls Try.prog 20 #[.int .i64 (i : Int), va, vb] w fun e w' => e = .returned (.int .i64 ((svd i a b : Nat) : Int)) ∧ Below w.heap.size w w' := by
  obtain ⟨aa, ca, rfl, _⟩ := ha.form
  obtain ⟨ab, cb, rfl, _⟩ := hb.form
  have HA : Hid (Reads w (.slice aa a.length ca) a) := ha
  have HB : Hid (Reads w (.slice ab b.length cb) b) := hb
  clear ha hb
  have e8 : Int.tmod (i : Int) 8 = ((i % 8 : Nat) : Int) := by rw [Int.tmod_eq_emod_of_nonneg (by omega)]; omega
  go_enter Try.func20, Try.ntmps20
  by_cases h8 : i % 8 = 0
  · have h8' : Int.tmod (i : Int) 8 = 0 := by omega
    have e : svd i a b = 0 := by unfold svd; rw [if_pos h8]
    rw [e]
    go_wp2_with fail
    go_ret
    exact ⟨rfl, Below.refl _ _⟩
  · have h8' : ¬ Int.tmod (i : Int) 8 = 0 := by omega
    have e : svd i a b = com a b := by unfold svd; rw [if_neg h8]
    rw [e]
    go_wp2_with fail
    refine (common_any _ _ a b _ HA.out HB.out).mono ?_
    rintro e w1 ⟨rfl, hb1⟩
    go_wp2_with fail
    go_ret
    exact ⟨rfl, hb1⟩
end Go.Proofs.Ytfgggfddehgigaa
