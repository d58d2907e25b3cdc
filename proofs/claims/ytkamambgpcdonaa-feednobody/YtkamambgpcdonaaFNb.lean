/- FeedNobody's walk. -/
import Derived.Test.YtkamambgpcdonaaFE3
namespace Go.Proofs.Ytkamambgpcdonaa
open Go.RowKit Go.Conc

theorem feedNobody_walk (v : Int) (u : Bool) (w : World) : Calls Try.prog 4 #[.int .i64 v, .bool u] w fun e w' => e = .returned (.bool true) ∧ Below w.heap.size w w' := by
  have hz : (w.alloc (.cells #[.chan none, .chan none, .bool false] 45)).cell? ⟨w.heap.size, 0, none⟩ = some (.chan none) := by simp
  go_enter Try.func4, Try.ntmps4
  go_wp2_with fail
  refine (len_nil _).mono ?_
  rintro e w' ⟨rfl, rfl⟩
  go_wp2_with fail
  refine (len_zero _ hz).mono ?_
  rintro e w' ⟨rfl, rfl⟩
  go_wp2_with fail
  refine (take_nil _).mono ?_
  rintro e w' ⟨rfl, rfl⟩
  go_wp2_with fail
  refine (take_zero _ hz).mono ?_
  rintro e w' ⟨rfl, rfl⟩
  go_wp2_with fail
  refine (alive_any _).mono ?_
  rintro e w1 ⟨rfl, hb⟩
  have HB : Hid (Below w.heap.size w w1) := ((Below.refl _ _).alloc (Nat.le_refl _) _).trans (hb.mono (by simp))
  have hz1 : w1.cell? ⟨w.heap.size, 0, none⟩ = some (.chan none) := (hb.cell (p := ⟨w.heap.size, 0, none⟩) (by simp)).trans hz
  clear hb
  go_wp2_with fail
  refine (put_nil _ _ _).mono ?_
  rintro e w' ⟨rfl, rfl⟩
  go_wp2_with fail
  refine (put_zero _ _ _ hz1).mono ?_
  rintro e w' ⟨rfl, rfl⟩
  go_wp2_with fail
  refine (close_nil _).mono ?_
  rintro e w' ⟨rfl, rfl⟩
  go_wp2_with fail
  refine (close_zero _ hz1).mono ?_
  rintro e w' ⟨rfl, rfl⟩
  go_wp2
  go_ret
  exact ⟨rfl, HB.out⟩
end Go.Proofs.Ytkamambgpcdonaa
