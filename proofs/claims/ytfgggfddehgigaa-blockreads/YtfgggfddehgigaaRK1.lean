/- The contract of the reference's Common. -/
import Derived.Test.YtfgggfddehgigaaC1q
namespace Go.Proofs.Ytfgggfddehgigaa
open Go.RowKit

theorem com_step {a b : Ks} (h1 : 0 < a.length) (h2 : 0 < b.length) (h : a[0] = b[0]) : com a b = com (a.drop 1) (b.drop 1) + 1 := by
  cases a with
  | nil => simp at h1
  | cons x a => cases b with
    | nil => simp at h2
    | cons y b => rw [com, if_pos (show x = y from h)]; rfl
theorem com_stop {a b : Ks} (h1 : 0 < a.length) (h2 : 0 < b.length) (h : a[0] ≠ b[0]) : com a b = 0 := by
  cases a with
  | nil => simp at h1
  | cons x a => cases b with
    | nil => simp at h2
    | cons y b => rw [com, if_neg (show x ≠ y from h)]
theorem com_nil1 {a b : Ks} (h : a.length = 0) : com a b = 0 := by
  rw [List.length_eq_zero_iff.1 h]; simp [com]
theorem com_nil2 {a b : Ks} (h : b.length = 0) : com a b = 0 := by
  rw [List.length_eq_zero_iff.1 h]; cases a <;> simp [com]
theorem beq0_t {n : Nat} (h : n = 0) : ((n : Int) == 0) = true := by subst h; rfl
theorem beq0_f {n : Nat} (h : ¬ n = 0) : ((n : Int) == 0) = false := by rw [beq_eq_false_iff_ne]; omega
set_option maxRecDepth 100000 in
set_option maxHeartbeats 1000000 in
theorem refCommon_any : ∀ (n : Nat) (a b : Ks) (va vb : Value) (w : World), a.length = n → Reads w va a → Reads w vb b →
    Calls Try.prog 12 #[va, vb] w fun e w' => e = .returned (.int .i64 ((com a b : Nat) : Int)) ∧ ∃ m, w' = w.drewN m := by
  intro n
  induction n using Nat.strongRecOn with
  | _ n ih =>
    intro a b va vb w hn ha hb
    obtain ⟨aa, ca, rfl, hma⟩ := ha.form
    obtain ⟨ab, cb, rfl, hmb⟩ := hb.form
    unfold maxLen at hma hmb
    have HA : Hid (Reads w (.slice aa a.length ca) a) := ha
    have HB : Hid (Reads w (.slice ab b.length cb) b) := hb
    have IH : Hid _ := ih
    have HN : Hid (a.length = n) := hn
    clear ha hb ih hn
    obtain ⟨C, HC⟩ := hid_ex (com a b)
    have HCl : Hid (com a b ≤ a.length) := (com_le a b).1
    rw [← HC.out]
    by_cases g1 : a.length = 0
    · have z : C = 0 := by rw [HC.out, com_nil1 g1]
      subst z
      have i1 : ((a.length : Int) == 0) = true := beq0_t g1
      clear g1
      go_enter Try.func12, Try.ntmps12
      go_wp2_with fail
      go_quiet (fail)
      go_wp2_with fail
      go_ret
      exact ⟨rfl, nq, rfl⟩
    have i1 : ((a.length : Int) == 0) = false := beq0_f g1
    by_cases g2 : b.length = 0
    · have z : C = 0 := by rw [HC.out, com_nil2 g2]
      subst z
      have i2 : ((b.length : Int) == 0) = true := beq0_t g2
      clear g2
      go_enter Try.func12, Try.ntmps12
      go_wp2_with fail
      go_quiet (fail)
      go_wp2_with fail
      go_ret
      exact ⟨rfl, nq, rfl⟩
    have i2 : ((b.length : Int) == 0) = false := beq0_f g2
    have p1 : 0 < a.length := by omega
    have p2 : 0 < b.length := by omega
    clear g1 g2
    obtain ⟨b1, o1, rfl, _, d1⟩ := HA.out.at 0 p1
    obtain ⟨b2, o2, rfl, _, d2⟩ := HB.out.at 0 p2
    simp only [Nat.add_zero] at d1 d2
    unfold bc at d1 d2
    obtain ⟨x, HX⟩ := hid_ex a[0]
    obtain ⟨y, HY⟩ := hid_ex b[0]
    rw [← HX.out] at d1
    rw [← HY.out] at d2
    by_cases hxy : (x.toNat : Int) = (y.toNat : Int)
    · have HE : Hid (C = com (a.drop 1) (b.drop 1) + 1) := by
        unfold Hid; rw [HC.out]
        exact com_step (by omega) (by omega) (by rw [← HX.out, ← HY.out]; exact UInt8.toNat_inj.1 (by omega))
      obtain ⟨C1, HC1⟩ := hid_ex (com (a.drop 1) (b.drop 1))
      have hC1 : C1 + 1 ≤ 9223372036854775807 := by
        have := HCl.out; rw [← HC.out, HE.out, ← HC1.out] at this; omega
      obtain ⟨a1, f1, hs1, hr1⟩ := sl_from (c := 1) HA.out (by omega)
      obtain ⟨a2, f2, hs2, hr2⟩ := sl_from (c := 1) HB.out (by omega)
      have k1 : ∀ w', (Instr.slice 23 (.slice (some ⟨b1, o1, none⟩) a.length ca) (some (.int .i64 1)) none none).run Try.prog w' = .ok (.slice a1 (a.length - 1) f1) w' := hs1
      have k2 : ∀ w', (Instr.slice 23 (.slice (some ⟨b2, o2, none⟩) b.length cb) (some (.int .i64 1)) none none).run Try.prog w' = .ok (.slice a2 (b.length - 1) f2) w' := hs2
      have HR1 : Hid (Reads w (.slice a1 (a.length - 1) f1) (a.drop 1)) := hr1
      have HR2 : Hid (Reads w (.slice a2 (b.length - 1) f2) (b.drop 1)) := hr2
      clear hs1 hs2 hr1 hr2
      have hEC : (C : Int) = (C1 : Int) + 1 := by rw [HE.out, ← HC1.out]; omega
      go_enter Try.func12, Try.ntmps12
      go_wp2_with fail
      go_quiet (fail)
      go_wp2_with fail
      obtain ⟨w1, HW1⟩ := hid_ex (w.drewN nq)
      rw [← HW1.out]
      have HB1 : Hid (Below w.heap.size w w1) := by rw [HW1.out]; exact below_drewN (Below.refl _ _) _
      have HCL : ∀ n, Calls Try.prog 12 #[.slice a1 (a.length - 1) f1, .slice a2 (b.length - 1) f2] (w1.drewN n) (fun e w' => e = .returned (.int .i64 (C1 : Int)) ∧ ∃ m, w' = w1.drewN m) := by
        intro n
        refine (IH.out (a.length - 1) (by have := HN.out; omega) (a.drop 1) (b.drop 1) _ _ _ (by simp) (HR1.out.below (below_drewN HB1.out _)) (HR2.out.below (below_drewN HB1.out _))).mono ?_
        intro e w' h
        exact ⟨by rw [h.1, ← HC1.out], by obtain ⟨m, hm⟩ := h.2; exact ⟨_, hm.trans (World.drewN_drewN _ _ _)⟩⟩
      go_quiet (exact HCL _)
      go_wp2_with fail
      go_ret
      exact ⟨by rw [hEC, Int.add_comm]; rfl, _, by rw [HW1.out]; exact World.drewN_drewN _ _ _⟩
    · have z : C = 0 := by
        rw [HC.out]
        exact com_stop (by omega) (by omega) (by rw [← HX.out, ← HY.out]; intro h; rw [h] at hxy; exact hxy rfl)
      subst z
      go_enter Try.func12, Try.ntmps12
      go_wp2_with fail
      go_quiet (fail)
      go_wp2_with fail
      go_ret
      exact ⟨rfl, nq, rfl⟩
end Go.Proofs.Ytfgggfddehgigaa
