/- The contracts of grain's small functions. -/
import Derived.Test.YtfgnojmpnkjdmaaRows
import Derived.WalkKit
import Derived.WalkSpells
import Derived.WalkLawsBesides
import Derived.Below
namespace Go.Proofs.Ytfgnojmpnkjdmaa
open Go.RowKit

/-- A time. -/
def isT (t : Int) : Bool := decide (0 ≤ t) && decide (t ≤ 1099511627776)
/-- A size. -/
def isS (t : Int) : Bool := decide (1 ≤ t) && decide (t ≤ 1099511627776)
theorem isT_iff (t : Int) : isT t = true ↔ 0 ≤ t ∧ t ≤ 1099511627776 := by simp [isT]
theorem isS_iff (t : Int) : isS t = true ↔ 1 ≤ t ∧ t ≤ 1099511627776 := by simp [isS]

set_option maxHeartbeats 400000 in
theorem isTime_any (t : Int) (w : World) : Calls Try.prog 22 #[.int .i64 t] w fun e w' => e = .returned (.bool (isT t)) ∧ w' = w := by
  unfold isT
  generalize h1 : decide (0 ≤ t) = p
  generalize h2 : decide (t ≤ 1099511627776) = q
  cases p <;> cases q <;>
  · go_enter Try.func22, Try.ntmps22
    go_wp2_with fail
    go_ret
    exact ⟨rfl, rfl⟩
set_option maxHeartbeats 400000 in
theorem isSize_any (t : Int) (w : World) : Calls Try.prog 23 #[.int .i64 t] w fun e w' => e = .returned (.bool (isS t)) ∧ w' = w := by
  unfold isS
  generalize h1 : decide (1 ≤ t) = p
  generalize h2 : decide (t ≤ 1099511627776) = q
  cases p <;> cases q <;>
  · go_enter Try.func23, Try.ntmps23
    go_wp2_with fail
    go_ret
    exact ⟨rfl, rfl⟩
theorem emod_leI (t s : Int) (t1 : 0 ≤ t) (s1 : 0 < s) : t % s ≤ t := by
  have h := Int.emod_add_mul_ediv t s
  have : 0 ≤ s * (t / s) := Int.mul_nonneg (by omega) (Int.ediv_nonneg t1 (by omega))
  omega
theorem mod_bd (t s : Int) (t1 : 0 ≤ t) (s1 : 1 ≤ s) : 0 ≤ t % s ∧ t % s ≤ t ∧ t % s < s :=
  ⟨Int.emod_nonneg _ (by omega), emod_leI t s t1 (by omega), Int.emod_lt_of_pos _ (by omega)⟩
set_option maxHeartbeats 400000 in
theorem begin_any (t s : Int) (ht : isT t = true) (hs : isS s = true) (w : World) : Calls Try.prog 24 #[.int .i64 t, .int .i64 s] w fun e w' => e = .returned (.int .i64 (t - t % s)) ∧ w' = w := by
  obtain ⟨t1, t2⟩ := (isT_iff t).1 ht
  obtain ⟨s1, s2⟩ := (isS_iff s).1 hs
  have hs0 : s ≠ 0 := by omega
  have hb := mod_bd t s t1 s1
  have et : Int.tmod t s = t % s := Int.tmod_eq_emod_of_nonneg t1
  clear ht hs
  go_enter Try.func24, Try.ntmps24
  go_wp2_with fail
  go_ret
  exact ⟨rfl, rfl⟩
end Go.Proofs.Ytfgnojmpnkjdmaa
