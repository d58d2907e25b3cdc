/- The reference's Same. -/
import Derived.Test.YteagbcijpfpjhaaPR3
namespace Go.Proofs.Yteagbcijpfpjhaa
open Go.RowKit Go.Shelf

set_option maxRecDepth 100000 in
set_option maxHeartbeats 4000000 in
theorem same_true (v u : Value) (L : List Rn) (w : World) (hR : NReads w v L) (hU : NReads w u L) : Calls Try.prog 18 #[v, u] w fun e w' => e = .returned (.bool true) ∧ Below w.heap.size w w' := by
  have HR : Hid (NReads w v L) := hR
  have HU : Hid (NReads w u L) := hU
  obtain ⟨a, cap, rfl, hl1, hl2⟩ := hR.form
  obtain ⟨b, cbp, rfl, hm1, hm2⟩ := hU.form
  clear hR hU
  unfold maxLen at hl2 hm2
  go_enter Try.func18, Try.ntmps18
  go_wp2_with fail
  go_loopw [5] (fun i wr => ∃ k : Nat, k ≤ L.length ∧ i = .int .i64 (k : Int) ∧ Hid (Below w.heap.size w wr)) (fun i _ => L.length - (intOf i).toNat)
  case atStart => exact ⟨0, by omega, rfl, Below.refl _ _⟩
  case round =>
    obtain ⟨k, hk, rfl, HB⟩ := hrel
    by_cases hlt : k < L.length
    · obtain ⟨x, xo, rfl, hx⟩ := HR.out.ptr (by omega)
      obtain ⟨y, yo, rfl, hy⟩ := HU.out.ptr (by omega)
      obtain ⟨r, Hr⟩ := hid_ex L[k]
      obtain ⟨c0, c1, c2, c3⟩ := (HR.out.below HB.out).four hlt r Hr.out
      obtain ⟨d0, d1, d2, d3⟩ := (HU.out.below HB.out).four hlt r Hr.out
      go_wp2_with fail
      go_quiet (fail)
      have HBn : Hid (Below w.heap.size w (wr.drewN nq)) := below_drewN HB.out nq
      clear c0 c1 c2 c3 d0 d1 d2 d3
      go_wp2_with fail
      go_roundw
      case rel => exact ⟨k + 1, by omega, by go_num, HBn.out⟩
      case measure => simp [intOf]; omega
    · go_wp2_with fail
      go_ret
      exact ⟨rfl, HB.out⟩
end Go.Proofs.Yteagbcijpfpjhaa
