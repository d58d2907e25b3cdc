/- What the fixed calls of the statements' own 'alive' come to: true. -/
import Derived.Test.YtldbglkapopbiaaW8
namespace Go.Proofs.Ytldbglkapopbiaa
open Go.RowKit

theorem isLen15 (L : Nat) (h : IsLen 15 L) : L = 2 := by
  obtain ⟨h1, h2, h3⟩ := h
  match L, h1, h2, h3 with
  | 1, _, h2, _ => exact absurd h2 (by decide)
  | 2, _, _, _ => rfl
  | L + 3, _, _, h3 =>
    exfalso
    rcases h3 with h3 | h3
    · omega
    · apply h3
      have : (10 : Nat) ^ 2 ≤ 10 ^ (L + 3 - 1) := Nat.pow_le_pow_right (by omega) (by omega)
      exact Nat.div_eq_of_lt (by omega)
theorem print15 (w : World) : Calls Try.prog 18 #[.agg #[.int .i64 (hi (-3 * 5)), .int .u64 (lo (-3 * 5))]] w fun e w' => e = .returned (.string ⟨#[45, 49, 53]⟩) ∧ Below w.heap.size w w' := by
  have h := print_neg 15 (by omega) (by omega) w
  refine h.mono fun e w' ⟨⟨L, hL, _, he⟩, hb⟩ => ⟨?_, hb⟩
  rw [he, isLen15 L hL]
  rfl
def two64 : ByteArray := ⟨#[49, 56, 52, 52, 54, 55, 52, 52, 48, 55, 51, 55, 48, 57, 53, 53, 49, 54, 49, 54]⟩
theorem parse64 (w : World) : Calls Try.prog 16 #[.string ⟨#[49, 56, 52, 52, 54, 55, 52, 52, 48, 55, 51, 55, 48, 57, 53, 53, 49, 54, 49, 54]⟩] w fun e w' => e = .returned (.tuple #[.agg #[.int .i64 1, .int .u64 0], .int .i64 0]) ∧ Below w.heap.size w w' := by
  have hc : cutL two64.data.toList = (two64.data.toList, false) := by decide
  have hf : Formed (cutL two64.data.toList).1 (cutL two64.data.toList).2 := by
    rw [hc]
    refine ⟨⟨by decide, by decide⟩, ?_⟩
    intro c hm
    have : ∀ c ∈ two64.data.toList, 48 ≤ c.toNat ∧ c.toNat ≤ 57 := by decide
    exact this c hm
  have hn : numOf (cutL two64.data.toList).1 = 18446744073709551616 := by rw [hc]; decide
  have h := parse_pos two64 (by decide) hf 18446744073709551616 hn (by decide) (by decide) (by rw [hc]) w
  have e1 : hi ((18446744073709551616 : Nat) : Int) = 1 := by unfold hi; omega
  have e2 : lo ((18446744073709551616 : Nat) : Int) = 0 := by unfold lo; omega
  rw [e1, e2] at h
  exact h

set_option maxRecDepth 100000 in
set_option maxHeartbeats 1000000 in
theorem alive_any (w : World) : Calls Try.prog 7 #[] w fun e w' => e = .returned (.bool true) ∧ Below w.heap.size w w' := by
  have hsg : sgn (-1) 1 = -1 := by decide
  go_enter Try.func7, Try.ntmps7
  go_wp2_with fail
  refine (parse64 _).mono ?_
  rintro e w1 ⟨rfl, hb1⟩
  go_wp2_with fail
  refine (times_any (-3) 5 (by decide) (by decide) (by decide) (by decide) _).mono ?_
  rintro e w2 ⟨rfl, hb2⟩
  go_wp2_with fail
  refine (print15 _).mono ?_
  rintro e w3 ⟨rfl, hb3⟩
  have c0 : w3.cell? ⟨w1.heap.size, 0, none⟩ = some (.int .i64 1) := by
    rw [hb3.cell (p := ⟨w1.heap.size, 0, none⟩) (by have := hb2.size; simp at this; show w1.heap.size < _; omega), hb2.cell (p := ⟨w1.heap.size, 0, none⟩) (by simp)]
    simp [go_sem]
  have c1 : w3.cell? ⟨w1.heap.size, 1, none⟩ = some (.int .u64 0) := by
    rw [hb3.cell (p := ⟨w1.heap.size, 1, none⟩) (by have := hb2.size; simp at this; show w1.heap.size < _; omega), hb2.cell (p := ⟨w1.heap.size, 1, none⟩) (by simp)]
    simp [go_sem]
  have HB3 : Hid (Below w.heap.size w w3) := (((hb1.alloc hb1.size _).trans (hb2.mono (by have := hb1.size; simp; omega)))).trans (hb3.mono (by have := hb1.size; have := hb2.size; simp at *; omega))
  have hs3 : w.heap.size ≤ w3.heap.size := HB3.out.size
  clear hb1 hb2 hb3
  go_wp2_with fail
  refine (of_any (-1) (by decide) (by decide) _).mono ?_
  rintro e w4 ⟨rfl, hb4⟩
  go_wp2_with fail
  refine (of_any 1 (by decide) (by decide) _).mono ?_
  rintro e w5 ⟨rfl, hb5⟩
  go_wp2_with fail
  refine (cmp_any (-1) 1 (by decide) (by decide) (by decide) (by decide) _).mono ?_
  rw [hsg]
  rintro e w6 ⟨rfl, hb6⟩
  have HB6 : Hid (Below w.heap.size w w6) := ((HB3.out.trans (hb4.mono (by omega))).trans (hb5.mono (by have := hb4.size; omega))).trans (hb6.mono (by have := hb4.size; have := hb5.size; omega))
  clear hb4 hb5 hb6
  go_wp2_with fail
  go_ret
  exact ⟨rfl, HB6.out⟩
end Go.Proofs.Ytldbglkapopbiaa
