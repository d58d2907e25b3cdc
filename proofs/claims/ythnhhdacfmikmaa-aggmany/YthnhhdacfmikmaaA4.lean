/- What the fixed calls of agg's 'alive' come to: true. -/
import Derived.Test.YthnhhdacfmikmaaA3
namespace Go.Proofs.Ythnhhdacfmikmaa
open Go.RowKit

theorem hi0 : hi 0 = 0 := by unfold hi; omega
theorem lo0 : lo 0 = 0 := by unfold lo; omega
theorem right_max1 (w : World) : Calls Try.prog 14 #[.agg #[.int .u64 0, .bool false, .int .i64 0, .int .u64 0, .int .i64 0, .int .i64 1]] w fun e w' => e = .returned (.bool false) ∧ Below w.heap.size w w' := by
  have h := right_any ⟨0, false, 0, 0, 1⟩ w
  have e : rightB ⟨0, false, 0, 0, 1⟩ = false := by unfold rightB; simp
  simp only [hi0, lo0, e] at h
  exact h
def alivA : Ag := mrg (oneF 3) (oneF (-5))
theorem alivA_eq : alivA = ⟨2, false, -2, -5, 3⟩ := by
  unfold alivA mrg oneF cntF ovF minF maxF; simp
theorem alivA_right : rightB alivA = true := by rw [alivA_eq]; unfold rightB; simp
theorem alivA_hi : hi alivA.s = -1 := by rw [alivA_eq]; unfold hi; simp
theorem alivA_lo : lo alivA.s = 18446744073709551614 := by rw [alivA_eq]; unfold lo; simp
theorem merge_alive (w : World) : Calls Try.prog 12 #[.agg #[.int .u64 (oneF 3).c, .bool (oneF 3).o, .int .i64 (hi (oneF 3).s), .int .u64 (lo (oneF 3).s), .int .i64 (oneF 3).mn, .int .i64 (oneF 3).mx], .agg #[.int .u64 (oneF (-5)).c, .bool (oneF (-5)).o, .int .i64 (hi (oneF (-5)).s), .int .u64 (lo (oneF (-5)).s), .int .i64 (oneF (-5)).mn, .int .i64 (oneF (-5)).mx]] w fun e w' => e = .returned (.agg #[.int .u64 alivA.c, .bool alivA.o, .int .i64 (hi alivA.s), .int .u64 (lo alivA.s), .int .i64 alivA.mn, .int .i64 alivA.mx]) ∧ Below w.heap.size w w' :=
  merge_any (oneF 3) (oneF (-5)) (by decide) (by decide) (by decide) (by decide) w

set_option maxRecDepth 100000 in
set_option maxHeartbeats 1000000 in
theorem alive2_any (w : World) : Calls Try.prog 5 #[] w fun e w' => e = .returned (.bool true) ∧ Below w.heap.size w w' := by
  have HR := alivA_right
  have EC : Hid (alivA.c = 2) := by unfold Hid; rw [alivA_eq]
  have EO : Hid (alivA.o = false) := by unfold Hid; rw [alivA_eq]
  have EN : Hid (alivA.mn = -5) := by unfold Hid; rw [alivA_eq]
  have EX : Hid (alivA.mx = 3) := by unfold Hid; rw [alivA_eq]
  have EH : Hid _ := alivA_hi
  have EL : Hid _ := alivA_lo
  have HRR : Hid _ := HR
  clear HR
  go_enter Try.func5, Try.ntmps5
  go_wp2_with fail
  refine (one_any 3 (by decide) (by decide) _).mono ?_
  rintro e w1 ⟨rfl, hb1⟩
  go_wp2_with fail
  refine (one_any (-5) (by decide) (by decide) _).mono ?_
  rintro e w2 ⟨rfl, hb2⟩
  go_wp2_with fail
  refine (merge_alive _).mono ?_
  rintro e w3 ⟨rfl, hb3⟩
  have HB3 : Hid (Below w.heap.size w w3) := (hb1.trans (hb2.mono hb1.size)).trans (hb3.mono (Nat.le_trans hb1.size hb2.size))
  clear hb1 hb2 hb3
  go_wp2_with fail
  refine (aggWrite_plain alivA EO.out HRR.out (by rw [EC.out]; decide) _).mono ?_
  rintro e w4 ⟨v, rfl, hown, hb4⟩
  obtain ⟨g, cap, hv, hg, _, _⟩ := own_form hown (by decide)
  rw [hv]
  have k0 := hb4.cell (p := ⟨w3.heap.size, 0, none⟩) (by simp)
  have k1 := hb4.cell (p := ⟨w3.heap.size, 1, none⟩) (by simp)
  have k2 := hb4.cell (p := ⟨w3.heap.size, 2, none⟩) (by simp)
  have k3 := hb4.cell (p := ⟨w3.heap.size, 3, none⟩) (by simp)
  have k4 := hb4.cell (p := ⟨w3.heap.size, 4, none⟩) (by simp)
  have k5 := hb4.cell (p := ⟨w3.heap.size, 5, none⟩) (by simp)
  simp [go_sem] at k0 k1 k2 k3 k4 k5
  rw [EC.out] at k0
  rw [EO.out] at k1
  rw [EH.out] at k2
  rw [EL.out] at k3
  rw [EN.out] at k4
  rw [EX.out] at k5
  have HB4 : Hid (Below w.heap.size w w4) := (HB3.out.alloc HB3.out.size _).trans (hb4.mono (by have := HB3.out.size; simp; omega))
  clear hown hb4 hv EC EO EN EX EH EL HRR
  go_wp2_with fail
  refine (right_max1 _).mono ?_
  rintro e w5 ⟨rfl, hb5⟩
  have HB5 : Hid (Below w.heap.size w w5) := HB4.out.trans (hb5.mono HB4.out.size)
  clear hb5
  go_wp2_with fail
  go_ret
  exact ⟨rfl, HB5.out⟩
end Go.Proofs.Ythnhhdacfmikmaa
