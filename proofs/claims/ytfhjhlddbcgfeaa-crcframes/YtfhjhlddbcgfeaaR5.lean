/- The reference's frames. -/
import Derived.Test.YtfhjhlddbcgfeaaF5
import Derived.Test.YtfhjhlddbcgfeaaV7
import Derived.BigRegion
namespace Go.Proofs.Ytfhjhlddbcgfeaa
open Go.RowKit

theorem four_at (n k : Nat) (hk : k < 4) : (four n).take (k + 1) = (four n).take k ++ [UInt8.ofNat (n / 256 ^ k)] := by
  have h : k = 0 ∨ k = 1 ∨ k = 2 ∨ k = 3 := by omega
  rcases h with rfl | rfl | rfl | rfl <;> simp [four]
set_option maxRecDepth 100000 in
set_option maxHeartbeats 1000000 in
theorem refFour_any (n : Nat) (hn : n < 4294967296) (w : World) :
    Calls Try.prog 24 #[.int .u32 (n : Int)] w fun e w' => ∃ v', e = .returned v' ∧ Own w' w.heap.size v' (four n) ∧ Below w.heap.size w w' := by
  go_enter Try.func24, Try.ntmps24
  go_wp2_with fail
  go_loopw [0, 3, 4] (fun x v i wr => ∃ k m : Nat, k ≤ 4 ∧ i = .int .i64 (k : Int) ∧ x = .int .u32 (m : Int) ∧ Hid (m = n / 256 ^ k) ∧ m < 4294967296 ∧ Hid (Own wr w.heap.size v ((four n).take k)) ∧ Hid (Below w.heap.size w wr)) (fun _ _ i _ => 4 - (intOf i).toNat)
  case atStart => exact ⟨0, n, by omega, rfl, rfl, by simp [Hid], hn, Own.nil _ _, Below.refl _ _⟩
  case round =>
    obtain ⟨k, m, hk, rfl, rfl, HM, hm, HO, HB⟩ := hrel
    by_cases hlt : k < 4
    · have HF : Hid ((four n).take (k + 1) = (four n).take k ++ [UInt8.ofNat m]) := by rw [HM.out]; exact four_at n k hlt
      have HM2 : Hid (m / 256 = n / 256 ^ (k + 1)) := by rw [HM.out, Nat.div_div_eq_div_mul, Nat.pow_succ]; exact rfl
      have hkl : ((four n).take k).length ≤ 4 := by simp [four_len]; omega
      have hsz := HB.out.size
      have hdm : (m : Int).tdiv 256 = ((m / 256 : Nat) : Int) := by rw [Int.tdiv_eq_ediv_of_nonneg (by omega)]; omega
      have hdw : IntKind.u32.wrap ((m / 256 : Nat) : Int) = ((m / 256 : Nat) : Int) := by simp [IntKind.wrap, IntKind.bits, IntKind.signed]; omega
      have hdc : IntKind.u32.wrap ((m : Int).tdiv 256) = ((m / 256 : Nat) : Int) := by rw [hdm, hdw]
      clear hdm hdw
      have hw1 : ((m : Int) % 256) % 256 = (m : Int) % 256 := by omega
      have hbc : Value.int .u8 ((m : Int) % 256) = bc (UInt8.ofNat m) := by
        unfold bc; rw [UInt8.toNat_ofNat']; simp
      have HBC : Hid _ := hbc
      clear hbc HM hw1
      go_wp2_with (at_builtin; refine wpList_app1 rfl _ _ rfl w.heap.size _ ((four n).take k) (UInt8.ofNat m) _ HF.out (by first | exact HBC.out | simpa using HBC.out) rfl rfl HO.out (by omega) hsz ?_)
      intro v2 w2 HO2 hb2
      have HB2 : Hid (Below w.heap.size w w2) := HB.out.trans hb2.out
      have HP2 : Hid (Own w2 w.heap.size v2 ((four n).take (k + 1))) := HO2
      clear HO2 hb2 HB HO HF HBC
      go_wp2_with fail
      go_roundw
      case rel => exact ⟨k + 1, m / 256, by omega, by simp, by simp, HM2, by omega, HP2, HB2⟩
      case measure => simp [intOf]; omega
    · have hke : k = 4 := by omega
      subst hke
      have HP : Hid (Own wr w.heap.size u3 (four n)) := HO.out
      clear HO HM
      go_wp2_with fail
      go_ret
      exact ⟨_, rfl, HP.out, HB.out⟩
set_option maxRecDepth 100000 in
set_option maxHeartbeats 1000000 in
theorem refNumber_any (v : Value) (l : List UInt8) (hl : 4 ≤ l.length) (w : World) (hr : Reads w v l) :
    Calls Try.prog 27 #[v] w fun e w' => e = .returned (.int .i64 (vle (l.take 4) : Nat)) ∧ Below w.heap.size w w' := by
  obtain ⟨a, cap, rfl, hm⟩ := hr.form
  obtain ⟨b, off, rfl, _, c0⟩ := hr.at 0 (by omega)
  obtain ⟨b1, off1, e1, _, c1⟩ := hr.at 1 (by omega)
  obtain ⟨b2, off2, e2, _, c2⟩ := hr.at 2 (by omega)
  obtain ⟨b3, off3, e3, _, c3⟩ := hr.at 3 (by omega)
  simp only [Option.some.injEq, Addr.mk.injEq, and_true] at e1 e2 e3
  obtain ⟨rfl, rfl⟩ := e1
  obtain ⟨rfl, rfl⟩ := e2
  obtain ⟨rfl, rfl⟩ := e3
  have hv : vle (l.take 4) = l[0].toNat + 256 * (l[1].toNat + 256 * (l[2].toNat + 256 * l[3].toNat)) := by
    match l, hl with
    | x :: y :: z :: u :: l, _ => simp [vle]
  have b0 := (l[0]).toNat_lt
  have b1 := (l[1]).toNat_lt
  have b2 := (l[2]).toNat_lt
  have b3 := (l[3]).toNat_lt
  unfold bc at c0 c1 c2 c3
  rw [Nat.add_zero] at c0
  generalize l[0].toNat = x0 at *
  generalize l[1].toNat = x1 at *
  generalize l[2].toNat = x2 at *
  generalize l[3].toNat = x3 at *
  have i1 : (1 : Int) < (l.length : Int) := by omega
  have i2 : (2 : Int) < (l.length : Int) := by omega
  have i3 : (3 : Int) < (l.length : Int) := by omega
  have i0 : (0 : Int) < (l.length : Int) := by omega
  have HV : Hid _ := hv
  clear hv hr
  rw [HV.out]
  go_enter Try.func27, Try.ntmps27
  go_wp2_with fail
  go_region
  go_wp2_with fail
  go_ret
  exact ⟨ret_int (by omega), (Below.refl _ _).drew⟩
end Go.Proofs.Ytfhjhlddbcgfeaa
