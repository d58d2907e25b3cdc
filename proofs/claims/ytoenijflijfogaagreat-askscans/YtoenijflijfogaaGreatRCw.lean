/- AskScans' walk, as its frame asks it. -/
import Derived.Test.YtoenijflijfogaaGreatRC50
namespace Go.Proofs.YtoenijflijfogaaGreat
open Go.RowKit Go.ChangeShapes Go.WideShapes Go.ChangeAt Go.Joins
theorem scans17_wf (R : Rl) (wm : Int) (v : Value) (L : List En) (q : Qy) (w : World) (hL : Lies R w.heap.size w) (_ : (Lit.int .i64 wm).wf = true) (hE : EReads w v L) (hQ : QLies q w) :
    Calls Tryz.prog 4 #[.agg #[.slice R.a R.len R.cap, .int .i64 R.kp], .int .i64 wm, v, q.val] w fun e w' => e = .returned (.bool true) ∧ Below w.heap.size w w' :=
  scans17_walk R wm v L q w hL hE hQ
end Go.Proofs.YtoenijflijfogaaGreat
