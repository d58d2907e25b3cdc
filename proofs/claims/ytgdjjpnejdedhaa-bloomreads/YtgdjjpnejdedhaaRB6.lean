/- The contracts of the reference's Read and Fit. -/
import Derived.Test.YtgdjjpnejdedhaaRB5
import Derived.Test.YtgdjjpnejdedhaaB9
namespace Go.Proofs.Ytgdjjpnejdedhaa
open Go.RowKit

set_option maxRecDepth 100000 in
set_option maxHeartbeats 1000000 in
theorem refFit_any (k : Int) (w : World) : Calls Try.prog 22 #[.int .i64 k] w fun e w' => e = .returned (.tuple #[.int .i64 (fitF k).1, .int .i64 (fitF k).2.1, .int .i64 (fitF k).2.2]) ∧ w' = w := by
  unfold fitF
  by_cases h1 : k < 0
  · rw [if_pos h1]
    go_enter Try.func22, Try.ntmps22
    go_wp2_with fail
    go_ret3
    exact ⟨rfl, rfl⟩
  · rw [if_neg h1]
    by_cases h2 : 6553 < k
    · rw [if_pos h2]
      go_enter Try.func22, Try.ntmps22
      go_wp2_with fail
      go_ret3
      exact ⟨rfl, rfl⟩
    · rw [if_neg h2]
      obtain ⟨z, Hz⟩ := hid_ex (8 * max ((10 * k + 7) / 8) 1)
      have hz1 : 10 * k ≤ z ∧ z < 10 * k + 9 ∧ 8 ≤ z ∧ z % 8 = 0 ∧ (z < 10 * k + 8 ∨ z = 8) := by rw [Hz.out]; omega
      show Calls Try.prog _ _ _ fun e w' => e = .returned (.tuple #[.int .i64 (8 * max ((10 * k + 7) / 8) 1), .int .i64 6, .int .i64 0]) ∧ w' = w
      rw [← Hz.out]
      go_enter Try.func22, Try.ntmps22
      go_wp2_with fail
      go_loop [5] (fun i => ∃ n : Int, i = .int .i64 n ∧ 10 * k ≤ n ∧ n ≤ z) (fun i => (z - intOf i).toNat)
      case atStart => exact ⟨10 * k, rfl, by omega, by omega⟩
      case round =>
        obtain ⟨n, rfl, hn1, hn2⟩ := hrel
        have et : n.tmod 8 = n % 8 := Int.tmod_eq_emod_of_nonneg (by omega)
        by_cases g1 : 0 < n.tmod 8
        · have hlt : n < z := by omega
          clear et
          go_wp2_with fail
          all_goals exact ⟨⟨n + 1, rfl, by omega, by omega⟩, by simp [intOf]; omega⟩
        · by_cases g2 : n < 8
          · have hlt : n < z := by omega
            clear et
            go_wp2_with fail
            all_goals exact ⟨⟨n + 1, rfl, by omega, by omega⟩, by simp [intOf]; omega⟩
          · have he : n = z := by omega
            subst he
            clear et
            go_wp2_with fail
            go_ret3
            exact ⟨rfl, rfl⟩
theorem refRead_no (v : Value) (l : List UInt8) (w : World) (hR : Reads w v l) (hno : ¬ rdOk l) :
    Calls Try.prog 20 #[v] w fun e w' => e = .returned (.tuple #[.pointer none, .int .i64 3]) ∧ w' = w := by
  by_cases h1 : l.length < 2
  · obtain ⟨a, cap, rfl, _⟩ := hR.form
    have i1 : (l.length : Int) < 2 := by omega
    clear hR
    go_enter Try.func20, Try.ntmps20
    go_wp2_with fail
    go_ret2
    exact ⟨rfl, rfl⟩
  · have i1 : ¬ (l.length : Int) < 2 := by omega
    by_cases h2 : 8193 < l.length
    · obtain ⟨a, cap, rfl, _⟩ := hR.form
      have i2 : (8193 : Int) < (l.length : Int) := by omega
      clear hR
      go_enter Try.func20, Try.ntmps20
      go_wp2_with fail
      go_ret2
      exact ⟨rfl, rfl⟩
    · have i2 : ¬ (8193 : Int) < (l.length : Int) := by omega
      obtain ⟨h, Hh⟩ := hid_ex (l.getD 0 0).toNat
      rcases hR with ⟨rfl, _⟩ | ⟨b, off, cap, rfl, r2, r3, r4, r5, r6⟩
      · simp at h1
      have c0 := r6 0 (by omega)
      have e0 : bc l[0] = .int .u8 (h : Int) := by
        rw [Hh.out]; simp [bc, List.getD, List.getElem?_eq_getElem (show 0 < l.length by omega)]
      rw [e0, Nat.add_zero] at c0
      unfold maxLen at r4
      have hlt : h < 256 := by rw [Hh.out]; exact UInt8.toNat_lt _
      have em : h = 0 ∨ 8 < h := by
        rcases Nat.lt_or_ge 8 h with hx | hx
        · exact .inr hx
        · left
          rcases Nat.eq_zero_or_pos h with hy | hy
          · exact hy
          · exact absurd ⟨by omega, by omega, by rw [← Hh.out]; omega, by rw [← Hh.out]; omega⟩ hno
      clear r6 e0 hno
      by_cases e1 : h = 0
      · subst e1
        go_enter Try.func20, Try.ntmps20
        go_wp2_with fail
        go_ret2
        exact ⟨rfl, rfl⟩
      · have e2 : (8 : Int) < (h : Int) := by omega
        have e3 : ¬ (h : Int) = 0 := by omega
        go_enter Try.func20, Try.ntmps20
        go_wp2_with fail
        go_ret2
        exact ⟨rfl, rfl⟩
end Go.Proofs.Ytgdjjpnejdedhaa
