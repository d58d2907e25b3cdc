/- IX, joined. -/
import Derived.Test.YtlpjdfgknmfmnaaTF2
/- Places of an array of three numbers. -/
namespace Go.Proofs.Ytlpjdfgknmfmnaa
open Go.RowKit
theorem idx3_0 (a b c : Int) (w : World) : (Instr.index 104 (.agg #[.int .i64 a, .int .i64 b, .int .i64 c]) (.int .i64 0)).run Try.prog w = .ok (.int .i64 a) w := by
  simp [Instr.index, run_underlying Try.underlying104, part, sizeOf, asIntOf, Result.andThen]
theorem idx3_1 (a b c : Int) (w : World) : (Instr.index 104 (.agg #[.int .i64 a, .int .i64 b, .int .i64 c]) (.int .i64 1)).run Try.prog w = .ok (.int .i64 b) w := by
  have hs : Try.t3.size = 1 := rfl
  simp [Instr.index, run_underlying Try.underlying104, part, sizeOf, asIntOf, Result.andThen, hs]
theorem idx3_2 (a b c : Int) (w : World) : (Instr.index 104 (.agg #[.int .i64 a, .int .i64 b, .int .i64 c]) (.int .i64 2)).run Try.prog w = .ok (.int .i64 c) w := by
  have hs : Try.t3.size = 1 := rfl
  simp [Instr.index, run_underlying Try.underlying104, part, sizeOf, asIntOf, Result.andThen, hs]
end Go.Proofs.Ytlpjdfgknmfmnaa
