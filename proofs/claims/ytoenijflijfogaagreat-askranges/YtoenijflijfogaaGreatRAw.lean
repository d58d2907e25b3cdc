/- AskRanges' walk, as its frame asks it. -/
import Derived.Test.YtoenijflijfogaaGreatRA44
namespace Go.Proofs.YtoenijflijfogaaGreat
open Go.RowKit Go.ChangeShapes Go.WideShapes Go.ChangeAt Go.Joins
theorem ranges17_wf (R : Rl) (wm : Int) (v : Value) (L : List En) (q : Qy) (m : Int) (w : World) (hL : Lies R w.heap.size w) (_ : (Lit.int .i64 wm).wf = true) (hE : EReads w v L) (hQ : QLies q w) (hm : (Lit.int .i64 m).wf = true) :
    Calls Tryz.prog 5 #[.agg #[.slice R.a R.len R.cap, .int .i64 R.kp], .int .i64 wm, v, q.val, .int .i64 m] w fun e w' => e = .returned (.bool true) ∧ Below w.heap.size w w' :=
  ranges17_walk R wm v L q m w hL hE hQ (bounds_i64 hm)
end Go.Proofs.YtoenijflijfogaaGreat
