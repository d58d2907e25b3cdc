/- The walk of BlockApart, its six cases together. -/
import Derived.Test.YtfgggfddehgigaaBAp1e
import Derived.Test.YtfgggfddehgigaaBAp1n
import Derived.Test.YtfgggfddehgigaaBAp2e
import Derived.Test.YtfgggfddehgigaaBAp2n
import Derived.Test.YtfgggfddehgigaaBAp3e
import Derived.Test.YtfgggfddehgigaaBAp3n
namespace Go.Proofs.Ytfgggfddehgigaa
open Go.RowKit
theorem apart_walk (vl : Value) (l : List Pr) (vm : Value) (m : List Pr) (vp : Value) (p : Ks) (vq : Value) (q : Ks) (w : World) (hPl : PReads w vl l) (hPm : PReads w vm m) (hp : Reads w vp p) (hq : Reads w vq q) :
    Calls Try.prog 5 #[vl, vm, vp, vq] w fun e w' => e = .returned (.bool true) ∧ Below w.heap.size w w' := by
  by_cases hlm : l = m
  · by_cases c1 : com p q < p.length
    · by_cases c2 : com p q < q.length
      · exact apart_1e vl l vm m vp p vq q w hPl hPm hp hq c1 c2 hlm
      · exact apart_2e vl l vm m vp p vq q w hPl hPm hp hq c1 c2 hlm
    · exact apart_3e vl l vm m vp p vq q w hPl hPm hp hq c1 hlm
  · by_cases c1 : com p q < p.length
    · by_cases c2 : com p q < q.length
      · exact apart_1n vl l vm m vp p vq q w hPl hPm hp hq c1 c2 hlm
      · exact apart_2n vl l vm m vp p vq q w hPl hPm hp hq c1 c2 hlm
    · exact apart_3n vl l vm m vp p vq q w hPl hPm hp hq c1 hlm
end Go.Proofs.Ytfgggfddehgigaa
