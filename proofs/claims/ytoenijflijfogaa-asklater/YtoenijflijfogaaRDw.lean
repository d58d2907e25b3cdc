/- AskLater's walk, as its frame asks it. -/
import Derived.Test.YtoenijflijfogaaRD42
namespace Go.Proofs.Ytoenijflijfogaa
open Go.RowKit Go.ChangeShapes Go.WideShapes Go.ChangeAt Go.Joins
theorem later17_wf (R : Rl) (wm lt : Int) (v : Value) (L : List En) (w : World) (hL : Lies R w.heap.size w) (_ : (Lit.int .i64 wm).wf = true) (_ : (Lit.int .i64 lt).wf = true) (hE : EReads w v L) :
    Calls Try.prog 4 #[.agg #[.slice R.a R.len R.cap, .int .i64 R.kp], .int .i64 wm, .int .i64 lt, v] w fun e w' => e = .returned (.bool true) ∧ Below w.heap.size w w' :=
  later17_walk R wm lt v L w hL hE
end Go.Proofs.Ytoenijflijfogaa
