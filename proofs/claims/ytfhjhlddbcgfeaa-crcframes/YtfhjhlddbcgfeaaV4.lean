/- The contract of crc.Frame. -/
import Derived.Test.YtfhjhlddbcgfeaaV3
namespace Go.Proofs.Ytfhjhlddbcgfeaa
open Go.RowKit

/-- A frame. -/
def frm (l : List UInt8) : List UInt8 := (four l.length ++ l) ++ four (mor 0 (four l.length ++ l))
theorem four_len (n : Nat) : (four n).length = 4 := rfl
theorem frm_len (l : List UInt8) : (frm l).length = l.length + 8 := by unfold frm; simp [four_len]; omega
set_option maxRecDepth 100000 in
set_option maxHeartbeats 1000000 in
theorem frame_any (v : Value) (l : List UInt8) (hl : l.length ≤ 65535) (w : World) (hr : Reads w v l) :
    Calls Try.prog 14 #[v] w fun e w' => ∃ v', e = .returned (.tuple #[v', .int .i64 0]) ∧ Own w' w.heap.size v' (frm l) ∧ Below w.heap.size w w' := by
  obtain ⟨i0, hi, hz0, hz1, hz2⟩ := info_parts info5
  obtain ⟨w0, hrn, hown0, hg0⟩ := run_make_own (P := Try.prog) w w.heap.size 22 5 i0 (.int .u8 0) 1 Try.underlying22 hi hz0 hz1 .i64 .i64 (l.length + 8) (by rw [hz2]; omega) (by unfold maxLen; omega) (Nat.le_refl _)
  have e2 : ((l.length + 8 : Nat) : Int) = (l.length : Int) + 8 := by omega
  rw [e2] at hrn
  clear e2
  have HB0 : Hid (Below w.heap.size w w0) := (Below.refl _ _).grown hg0 (Nat.le_refl _) (fun k hk => by cases hk)
  have HO0 : Own w0 w.heap.size (.slice (some ⟨w.heap.size, 0, none⟩) 0 (l.length + 8)) [] := hown0
  clear hown0 hg0 hi hz0 hz1 hz2
  obtain ⟨a, cap, rfl, _⟩ := hr.form
  have hsz0 := HB0.out.size
  go_enter Try.func14, Try.ntmps14
  go_wp2_with fail
  refine (appendNumber_any _ [] l.length _ _ HO0 (by simp) hsz0).mono ?_
  rintro e w1 ⟨v1, rfl, HO1, hb1⟩
  have HB1 : Hid (Below w.heap.size w w1) := HB0.out.trans hb1
  have hr1 : Reads w1 (.slice a l.length cap) l := hr.below HB1.out
  have hsz1 := HB1.out.size
  clear hr hb1 hrn HO0
  obtain ⟨M, HM⟩ := hid_ex (([] ++ four l.length) ++ l)
  go_wp2_with (at_builtin; refine wpList_app rfl _ _ rfl w.heap.size _ _ ([] ++ four l.length) l M HM.out rfl rfl HO1 hr1 (by simp [four_len]; omega) hsz1 ?_)
  intro v2 w2 HO2 hb2
  have HB2 : Hid (Below w.heap.size w w2) := HB1.out.trans hb2.out
  have hsz2 := HB2.out.size
  have HML : Hid (M.length = l.length + 4) := by unfold Hid; rw [HM.out]; simp [four_len]; omega
  clear hb2 HO1 hr1
  go_wp2_with fail
  refine (sum_any _ M _ HO2.reads).mono ?_
  rintro e w3 ⟨rfl, hw⟩
  subst w3
  go_wp2_with fail
  refine (appendNumber_any _ M (mor 0 M) _ _ HO2 (by rw [HML.out]; omega) hsz2).mono ?_
  rintro e w4 ⟨v4, rfl, HO4, hb4⟩
  have HB4 : Hid (Below w.heap.size w w4) := HB2.out.trans hb4
  have HF : Hid (M ++ four (mor 0 M) = frm l) := by rw [HM.out]; rfl
  clear hb4 HO2
  go_wp2_with fail
  go_ret2
  exact ⟨_, rfl, by rw [← HF.out]; exact HO4, HB4.out⟩
theorem frame_long (v : Value) (l : List UInt8) (hl : 65535 < l.length) (w : World) (hr : Reads w v l) :
    Calls Try.prog 14 #[v] w fun e w' => e = .returned (.tuple #[.slice none 0 0, .int .i64 2]) ∧ w' = w := by
  obtain ⟨a, cap, rfl, _⟩ := hr.form
  clear hr
  have h1 : (65535 : Int) < (l.length : Int) := by omega
  go_enter Try.func14, Try.ntmps14
  go_wp2_with fail
  go_ret2
  exact ⟨rfl, rfl⟩
end Go.Proofs.Ytfhjhlddbcgfeaa
