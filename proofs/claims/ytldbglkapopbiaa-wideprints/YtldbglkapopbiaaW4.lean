/- The contracts of wide.magnitude and Print. -/
import Derived.Test.YtldbglkapopbiaaW3
namespace Go.Proofs.Ytldbglkapopbiaa
open Go.RowKit

theorem hi_neg (x : Int) (x1 : -170141183460469231731687303715884105728 ≤ x) (x2 : x < 170141183460469231731687303715884105728) : (hi x < 0 ↔ x < 0) := by
  unfold hi; omega
theorem hi_nat (x : Int) (x1 : 0 ≤ x) (x2 : x < 340282366920938463463374607431768211456) : hi x % 18446744073709551616 = x / 18446744073709551616 := by
  unfold hi; omega

set_option maxHeartbeats 400000 in
theorem magnitude_pos (x : Int) (x1 : 0 ≤ x) (x2 : x < 170141183460469231731687303715884105728) (w : World) :
    Calls Try.prog 32 #[.agg #[.int .i64 (hi x), .int .u64 (lo x)]] w fun e w' => e = .returned (.tuple #[.int .u64 (x / 18446744073709551616), .int .u64 (x % 18446744073709551616)]) ∧ Below w.heap.size w w' := by
  have hn : ¬ hi x < 0 := by rw [hi_neg x (by omega) x2]; omega
  have hb := hi_bd x
  have EH : Hid (hi x = x / 18446744073709551616) := by unfold Hid hi; omega
  go_enter Try.func32, Try.ntmps32
  go_wp2
  go_quiet (fail)
  go_wp2
  go_ret2
  exact ⟨ret2 EH.out rfl, below_drewN ((Below.refl _ _).alloc (by simp) _) _⟩

set_option maxHeartbeats 400000 in
theorem magnitude_neg (x : Int) (x1 : -170141183460469231731687303715884105728 ≤ x) (x2 : x < 0) (w : World) :
    Calls Try.prog 32 #[.agg #[.int .i64 (hi x), .int .u64 (lo x)]] w fun e w' => e = .returned (.tuple #[.int .u64 (-x / 18446744073709551616), .int .u64 (-x % 18446744073709551616)]) ∧ Below w.heap.size w w' := by
  have hn : hi x < 0 := by rw [hi_neg x x1 (by omega)]; omega
  have hb := hi_bd x
  have EH : Hid (hi (-x) % 18446744073709551616 = -x / 18446744073709551616) := hi_nat (-x) (by omega) (by omega)
  go_enter Try.func32, Try.ntmps32
  go_wp2_with fail
  refine (minus_any x _).mono ?_
  rintro e w1 ⟨rfl, hbl⟩
  have hsz := hbl.size
  have c0 := hbl.cell (p := ⟨w.heap.size, 0, none⟩) (by simp)
  have c1 := hbl.cell (p := ⟨w.heap.size, 1, none⟩) (by simp)
  have f0 := hbl.frozen (p := ⟨w.heap.size, 0, none⟩) (by simp)
  have f1 := hbl.frozen (p := ⟨w.heap.size, 1, none⟩) (by simp)
  simp [go_sem] at c0 c1 f0 f1 hsz
  go_wp2_with fail
  go_quiet (fail)
  go_wp2
  go_ret2
  refine ⟨?_, ?_⟩
  · rw [← EH.out]; exact ret2 (IntKind.wrap_u64 _) rfl
  · exact below_drewN (((((Below.refl _ _).alloc (by simp) _).trans (hbl.mono (by simp))).setCell (by simp) _).setCell (by simp) _) _

end Go.Proofs.Ytldbglkapopbiaa
