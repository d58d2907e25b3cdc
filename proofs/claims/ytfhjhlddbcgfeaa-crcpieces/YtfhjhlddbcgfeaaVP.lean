/- The walk of CrcPieces. -/
import Derived.Test.YtfhjhlddbcgfeaaV6
import Derived.Test.YtfhjhlddbcgfeaaOB
namespace Go.Proofs.Ytfhjhlddbcgfeaa
open Go.RowKit

set_option maxRecDepth 100000 in
set_option maxHeartbeats 1000000 in
theorem pieces_walk (va : Value) (la : List UInt8) (vb : Value) (lb : List UInt8) (w : World) (ha : Reads w va la) (hb : Reads w vb lb) :
    Calls Try.prog 5 #[va, vb] w fun e w' => e = .returned (.bool true) ∧ Below w.heap.size w w' := by
  obtain ⟨aa, ca, rfl, hma⟩ := ha.form
  obtain ⟨ab, cb, rfl, hmb⟩ := hb.form
  unfold maxLen at hma hmb
  by_cases g1 : 3000 < la.length ∨ 3000 < lb.length
  · by_cases g2 : (3000 : Int) < (la.length : Int)
    all_goals
      (try (have g3 : (3000 : Int) < (lb.length : Int) := by omega))
      clear ha hb g1
      go_enter Try.func5, Try.ntmps5
      go_wp2_with fail
      refine (alive_any _).mono ?_
      rintro e w1 ⟨rfl, hb1⟩
      go_wp2_with fail
      go_ret
      exact ⟨rfl, hb1⟩
  · have g2 : ¬ (3000 : Int) < (la.length : Int) := by omega
    have g3 : ¬ (3000 : Int) < (lb.length : Int) := by omega
    clear g1
    go_enter Try.func5, Try.ntmps5
    go_wp2_with fail
    refine (copy_any _ la (by omega) _ ha).mono ?_
    rintro e w1 ⟨v1, rfl, HO1, hb1⟩
    have HB1 : Hid (Below w.heap.size w w1) := hb1
    have hrb1 : Reads w1 _ lb := hb.below hb1
    have hsz1 := hb1.size
    obtain ⟨M, HM⟩ := hid_ex (la ++ lb)
    clear hb1
    go_wp2_with (at_builtin; refine wpList_app rfl _ _ rfl w.heap.size _ _ la lb M HM.out rfl rfl HO1 hrb1 (by omega) hsz1 ?_)
    intro v2 w2 HO2 hb2
    have HB2 : Hid (Below w.heap.size w w2) := HB1.out.trans hb2.out
    clear HO1 hb2 hrb1 HB1 hsz1
    go_wp2_with fail
    refine (alive_any _).mono ?_
    rintro e w3 ⟨rfl, hb3⟩
    have HB3 : Hid (Below w.heap.size w w3) := HB2.out.trans (hb3.mono HB2.out.size)
    have hrM := HO2.reads.below hb3
    have hrA := ha.below HB3.out
    have hrB := hb.below HB3.out
    clear hb3 HB2 HO2 ha hb
    go_wp2_with fail
    refine (sum_any _ M _ hrM).mono ?_
    rintro e w4 ⟨rfl, hw⟩
    subst w4
    go_wp2_with fail
    refine (sum_any _ la _ hrA).mono ?_
    rintro e w4 ⟨rfl, hw⟩
    subst w4
    go_wp2_with fail
    refine (more_any _ (mor_lt _ _) _ lb _ hrB).mono ?_
    rintro e w4 ⟨rfl, hw⟩
    subst w4
    rw [← mor_append, ← HM.out]
    go_wp2_with fail
    refine (sum_any _ la _ hrA).mono ?_
    rintro e w4 ⟨rfl, hw⟩
    subst w4
    go_wp2_with fail
    refine (more_none _ (mor_lt _ _) _ _ _).mono ?_
    rintro e w4 ⟨rfl, hw⟩
    subst w4
    rw [mor_nil (mor_lt _ _)]
    go_wp2_with fail
    refine (sum_any _ la _ hrA).mono ?_
    rintro e w4 ⟨rfl, hw⟩
    subst w4
    clear hrM hrA hrB
    go_wp2_with fail
    go_ret
    exact ⟨rfl, HB3.out⟩
end Go.Proofs.Ytfhjhlddbcgfeaa
