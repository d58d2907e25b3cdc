/- SVcd, joined. -/
import Derived.Test.YtoibmjmajbkbcaaSG21
/- SkipLives: parts of its code (written by mksv9.py). -/
namespace Go.Proofs.Ytoibmjmajbkbcaa
open Go.RowKit

def cS : Code → Code
  | .seq _ b => b
  | c => c
def cF : Code → Code
  | .seq a _ => a
  | c => c
def cB : Code → Code
  | .block _ c => c
  | c => c
def cL : Code → Code
  | .loop c => c
  | c => c
/-- What stands behind the switch, in a round. -/
noncomputable def tailC : Code := cS (cS (cS (cB (cF (cS (cL (cB (cS (cF (cS (cS (cS (Try.f3.body.getD .skip)))))))))))))
/-- The switch. -/
noncomputable def switchC : Code := cS (cF (cS (cS (cB (cF (cS (cL (cB (cS (cF (cS (cS (cS (Try.f3.body.getD .skip))))))))))))))
end Go.Proofs.Ytoibmjmajbkbcaa
