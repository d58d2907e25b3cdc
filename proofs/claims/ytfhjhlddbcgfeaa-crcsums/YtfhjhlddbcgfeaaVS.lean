/- The walk of CrcSums. -/
import Derived.Test.YtfhjhlddbcgfeaaV7
import Derived.Test.YtfhjhlddbcgfeaaOB
namespace Go.Proofs.Ytfhjhlddbcgfeaa
open Go.RowKit Go.ChangeShapes Go.WideShapes Go.ChangeAt Go.Joins

set_option maxRecDepth 100000 in
set_option maxHeartbeats 1000000 in
theorem sums_walk (v : Value) (l : List UInt8) (s : Int) (w : World) (hr : Reads w v l) (hs : (Lit.int .u32 s).wf = true) :
    Calls Try.prog 3 #[v, .int .u32 s] w fun e w' => e = .returned (.bool true) ∧ Below w.heap.size w w' := by
  have hs2 := bounds_u32 hs
  clear hs
  obtain ⟨n, rfl⟩ : ∃ n : Nat, s = n := ⟨s.toNat, by omega⟩
  obtain ⟨a, c, rfl, hm⟩ := hr.form
  unfold maxLen at hm
  by_cases g : (5000 : Int) < (l.length : Int)
  · clear hr
    go_enter Try.func3, Try.ntmps3
    go_wp2_with fail
    refine (alive_any _).mono ?_
    rintro e w1 ⟨rfl, hb1⟩
    go_wp2_with fail
    go_ret
    exact ⟨rfl, hb1⟩
  · go_enter Try.func3, Try.ntmps3
    go_wp2_with fail
    refine (alive_any _).mono ?_
    rintro e w1 ⟨rfl, hb1⟩
    have HB1 : Hid (Below w.heap.size w w1) := hb1
    have hr1 := hr.below hb1
    clear hr hb1
    go_wp2_with fail
    refine (sum_any _ l _ hr1).mono ?_
    rintro e w4 ⟨rfl, hw⟩
    subst w4
    go_wp2_with fail
    refine (refSum_any _ l _ hr1).mono ?_
    rintro e w4 ⟨rfl, hw⟩
    subst w4
    go_wp2_with fail
    refine (more_any n (by omega) _ l _ hr1).mono ?_
    rintro e w4 ⟨rfl, hw⟩
    subst w4
    go_wp2_with fail
    refine (refMore_any n (by omega) _ l _ hr1).mono ?_
    rintro e w4 ⟨rfl, hw⟩
    subst w4
    clear hr1
    go_wp2_with fail
    go_ret
    exact ⟨rfl, HB1.out⟩
end Go.Proofs.Ytfhjhlddbcgfeaa
