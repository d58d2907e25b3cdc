/- BK5, joined. -/
import Derived.Test.YtlpjdfgknmfmnaaTF17
import Derived.Test.YtlpjdfgknmfmnaaTF19
/- The contract of joined. -/
namespace Go.Proofs.Ytlpjdfgknmfmnaa
open Go.RowKit

set_option maxRecDepth 100000 in
set_option maxHeartbeats 1000000 in
theorem joined_any (va vb : Value) (a b : Ks) (hl : a.length + b.length ≤ 100000) (w : World) (ha : Reads w va a) (hb : Reads w vb b) :
    Calls Try.prog 102 #[va, vb] w fun e w' => ∃ v, e = .returned v ∧ Own w' w.heap.size v (a ++ b) ∧ Below w.heap.size w w' := by
  obtain ⟨i0, hi0, hz0, hz1, hz2⟩ := info_parts info5
  obtain ⟨n, hn⟩ : ∃ n : Nat, (a.length : Int) + (b.length : Int) = (n : Int) := ⟨a.length + b.length, by omega⟩
  have HN : Hid (n = a.length + b.length) := by unfold Hid; omega
  obtain ⟨w1, hrn, hown1, hg1⟩ := run_make_full (P := Try.prog) w w.heap.size 25 5 i0 (.int .u8 0) 1 Try.underlying25 hi0 hz0 hz1 .i64 .i64 n (by rw [hz2]; omega) (by unfold maxLen; omega) (Nat.le_refl _)
  rw [Nat.mul_one] at hown1
  have HO1 : Hid (Own w1 w.heap.size (.slice (some ⟨w.heap.size, 0, none⟩) n n) (List.replicate n 0)) := own_zeros hown1
  have HB1 : Hid (Below w.heap.size w w1) := (Below.refl _ _).grown hg1 (Nat.le_refl _) (fun k hk => by cases hk)
  clear hown1 hg1 hi0 hz0 hz1 hz2
  obtain ⟨w2, hcp, ho2, hb2, _⟩ := copy_gen (off := 0) (m := n) 3 HO1.out (ha.below HB1.out) (by have := HN.out; omega) (by omega)
  have HO2 : Hid (Own w2 w.heap.size (.slice (some ⟨w.heap.size, 0, none⟩) n n) (a ++ List.replicate b.length 0)) := by
    have e : (List.replicate n (0 : UInt8)).take 0 ++ a ++ (List.replicate n 0).drop (0 + a.length) = a ++ List.replicate b.length 0 := by
      rw [List.take_zero, List.nil_append, List.drop_replicate, HN.out]; congr 2; omega
    rw [e] at ho2; exact ho2
  have HB2 : Hid (Below w.heap.size w w2) := HB1.out.trans hb2.out
  have HRb : Hid (Reads w2 vb b) := hb.below HB2.out
  clear ho2 hb2 HO1 HB1
  obtain ⟨aa, ca, rfl, hma⟩ := ha.form
  obtain ⟨ab, cb, rfl, hmb⟩ := hb.form
  unfold maxLen at hma hmb
  clear ha hb
  unfold goInt at hcp
  rcases Nat.eq_zero_or_pos b.length with h0 | h0
  · have hb0 : b = [] := List.length_eq_zero_iff.1 h0
    subst hb0
    have hna : a.length = n := by have := HN.out; simp at this; omega
    have hc2 : ∀ d m c, (Builtin.copy_ #[25, 25] 3 #[.slice d m c, .slice ab 0 cb]).run Try.prog w2 = .ok (goInt 0) w2 := fun d m c => copy_none _
    unfold goInt at hc2
    simp only [List.length_nil] at *
    rw [hna] at hcp
    go_enter Try.func102, Try.ntmps102
    go_wp2_with fail
    go_ret
    refine ⟨_, rfl, ?_, HB2.out⟩
    have := HO2.out
    simpa using this
  · have hlt : a.length < n := by have := HN.out; omega
    obtain ⟨w3, hc2, ho3, hb3, _⟩ := copy_gen (off := a.length) (m := n - a.length) 3 HO2.out HRb.out (by have := HN.out; omega) rfl
    have HO3 : Hid (Own w3 w.heap.size (.slice (some ⟨w.heap.size, 0, none⟩) n n) (a ++ b)) := by
      have e : (a ++ List.replicate b.length (0 : UInt8)).take a.length ++ b ++ (a ++ List.replicate b.length 0).drop (a.length + b.length) = a ++ b := by
        rw [List.take_left, List.drop_eq_nil_of_le (by simp), List.append_nil]
      rw [e] at ho3; exact ho3
    have HB3 : Hid (Below w.heap.size w w3) := HB2.out.trans hb3.out
    unfold goInt at hc2
    clear ho3 hb3 HO2 HB2 HRb
    go_enter Try.func102, Try.ntmps102
    go_wp2_with fail
    go_ret
    exact ⟨_, rfl, HO3.out, HB3.out⟩
end Go.Proofs.Ytlpjdfgknmfmnaa
