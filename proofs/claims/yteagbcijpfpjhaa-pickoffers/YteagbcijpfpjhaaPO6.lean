/- The reference's SameTask. -/
import Derived.Test.YteagbcijpfpjhaaPR3
import Derived.BigQuiet
import Derived.Deep.QuietTactic
namespace Go.Proofs.Yteagbcijpfpjhaa
open Go.RowKit Go.Shelf

set_option maxRecDepth 100000 in
set_option maxHeartbeats 4000000 in
theorem sameTask_true (v u : Value) (fs : List Int) (lv : Int) (w : World) (hR : Reads w v fs) (hU : Reads w u fs) : Calls Try.prog 17 #[.agg #[v, .int .i64 lv], .agg #[u, .int .i64 lv]] w fun e w' => e = .returned (.bool true) ∧ Below w.heap.size w w' := by
  have HR : Hid (Reads w v fs) := hR
  have HU : Hid (Reads w u fs) := hU
  obtain ⟨a, cap, rfl, hl2⟩ := hR.form
  obtain ⟨b, cbp, rfl, hm2⟩ := hU.form
  clear hR hU
  unfold maxLen at hl2 hm2
  obtain ⟨w0, HW0⟩ := hid_ex ((w.alloc (.cells #[.slice a fs.length cap, .int .i64 lv] 32)).alloc (.cells #[.slice b fs.length cbp, .int .i64 lv] 32))
  have HB0 : Hid (Below w.heap.size w w0) := by rw [HW0.out]; exact ((Below.refl _ _).alloc (Nat.le_refl _) _).alloc (by simp) _
  have HXa : Hid (w0.heap[w.heap.size]? = some (.cells #[.slice a fs.length cap, .int .i64 lv] 32)) := by
    unfold Hid
    rw [HW0.out, Below.heap_alloc _ _ _ (by simp)]
    exact heap_alloc_new _ _
  have HXb : Hid (w0.heap[w.heap.size + 1]? = some (.cells #[.slice b fs.length cbp, .int .i64 lv] 32)) := by
    unfold Hid
    rw [HW0.out]
    have := heap_alloc_new (w.alloc (.cells #[.slice a fs.length cap, .int .i64 lv] 32)) (.cells #[.slice b fs.length cbp, .int .i64 lv] 32)
    simpa using this
  go_enter Try.func17, Try.ntmps17
  go_wp2_with fail
  rw [← HW0.out]
  clear HW0
  go_loopw [5] (fun i wr => ∃ k : Nat, k ≤ fs.length ∧ i = .int .i64 (k : Int) ∧ Hid (Below w0.heap.size w0 wr)) (fun i _ => fs.length - (intOf i).toNat)
  case atStart => exact ⟨0, by omega, rfl, Below.refl _ _⟩
  case round =>
    obtain ⟨k, hk, rfl, HB⟩ := hrel
    have HBw : Hid (Below w.heap.size w wr) := HB0.out.trans (HB.out.mono HB0.out.size)
    have g0 := (cell_row ((HB.out.block _ (Array.getElem?_eq_some_iff.1 HXa.out).1).trans HXa.out) 0 (by simp)).1
    have h0 := (cell_row ((HB.out.block _ (Array.getElem?_eq_some_iff.1 HXb.out).1).trans HXb.out) 0 (by simp)).1
    simp only [List.getElem_toArray, List.getElem_cons_zero] at g0 h0
    by_cases hlt : k < fs.length
    · obtain ⟨x, xo, rfl, hx, hxc⟩ := (HR.out.below HBw.out).at k hlt
      obtain ⟨y, yo, rfl, hy, hyc⟩ := (HU.out.below HBw.out).at k hlt
      obtain ⟨r, Hr⟩ := hid_ex fs[k]
      rw [← Hr.out] at hxc hyc
      unfold ic at hxc hyc
      go_wp2_with fail
      go_quiet (fail)
      have HBn : Hid (Below w0.heap.size w0 (wr.drewN nq)) := below_drewN HB.out nq
      clear hxc hyc g0 h0
      go_wp2_with fail
      go_roundw
      case rel => exact ⟨k + 1, by omega, by go_num, HBn.out⟩
      case measure => simp [intOf]; omega
    · go_wp2_with fail
      go_ret
      exact ⟨rfl, HBw.out⟩
end Go.Proofs.Yteagbcijpfpjhaa
