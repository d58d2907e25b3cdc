/- The contract of the reference's Write. -/
import Derived.Test.YtbcdmammedabmaaK12
import Derived.Test.YtbcdmammedabmaaC5r
namespace Go.Proofs.Ytbcdmammedabmaa
open Go.RowKit

set_option maxRecDepth 100000 in
set_option maxHeartbeats 1000000 in
theorem refWrite_no (k : Ky) (hn : rightB k.L k.f k.g = false) (w : World) (h : KLies k w) :
    Calls Try.prog 12 #[k.val] w fun e w' => e = .returned (.tuple #[.slice none 0 0, .int .i64 40]) ∧ Below w.heap.size w w' := by
  obtain ⟨a, cap, hv, _⟩ := h.r.form
  obtain ⟨v, L, f, g⟩ := k
  simp only at hv
  subst hv
  have HX : Hid (Below (w.heap.size + 1) (w.alloc (.cells #[.slice a L.length cap, .int .i64 f, .int .i64 g] 24)) (w.alloc (.cells #[.slice a L.length cap, .int .i64 f, .int .i64 g] 24))) := Below.refl _ _
  have HK0 := h.below (box_below HX.out)
  unfold Ky.val
  simp only at HK0 hn ⊢
  clear h
  go_enter Try.func12, Try.ntmps12
  go_wp2_with fail
  refine (refRight_any ⟨.slice a L.length cap, L, f, g⟩ _ HK0).mono ?_
  rw [hn]
  rintro e w1 ⟨rfl, hb1⟩
  have HB1 : Hid (Below w.heap.size w w1) := box_below (HX.out.trans (hb1.mono (by simp)))
  clear hb1 HK0 hn
  go_wp2_with fail
  go_ret2
  exact ⟨rfl, HB1.out⟩
set_option maxRecDepth 100000 in
set_option maxHeartbeats 1000000 in
theorem refWrite_yes (k : Ky) (hn : rightB k.L k.f k.g = true) (w : World) (h : KLies k w) :
    Calls Try.prog 12 #[k.val] w fun e w' => ∃ v, e = .returned (.tuple #[v, .int .i64 0]) ∧ Own w' w.heap.size v (kb k.L k.f k.g) ∧ Below w.heap.size w w' := by
  obtain ⟨a, cap, hv, _⟩ := h.r.form
  obtain ⟨v, L, f, g⟩ := k
  simp only at hv
  subst hv
  have HX : Hid (Below (w.heap.size + 1) (w.alloc (.cells #[.slice a L.length cap, .int .i64 f, .int .i64 g] 24)) (w.alloc (.cells #[.slice a L.length cap, .int .i64 f, .int .i64 g] 24))) := Below.refl _ _
  have HK0 := h.below (box_below HX.out)
  have HKA : Hid (KLies ⟨.slice a L.length cap, L, f, g⟩ w) := h
  obtain ⟨_, f1, f2, g1, g2⟩ := h
  unfold Ky.val
  simp only at HK0 hn f1 f2 g1 g2 ⊢
  have HRT : Hid (rightB L f g = true) := hn
  obtain ⟨hmb, q1, q2, q3, q4⟩ := right_facts hn
  have HM : Hid (mayB L = true) := hmb
  have hjl : (jn L).length ≤ 141 := by
    obtain ⟨m1, m2⟩ := mayB_iff.1 HM.out
    have := jb_len L m2
    unfold jn; simp; omega
  clear hmb
  go_enter Try.func12, Try.ntmps12
  go_wp2_with fail
  refine (refRight_any ⟨.slice a L.length cap, L, f, g⟩ _ HK0).mono ?_
  rw [hn]
  rintro e w1 ⟨rfl, hb1⟩
  have HX1 : Hid (Below (w.heap.size + 1) (w.alloc (.cells #[.slice a L.length cap, .int .i64 f, .int .i64 g] 24)) w1) := HX.out.trans (hb1.mono (by simp))
  have HS1 : Hid (w.heap.size + 1 ≤ w1.heap.size) := by have := HX1.out.size; unfold Hid; simpa using this
  obtain ⟨k0, k1, k2⟩ := kbox HX1.out
  clear hb1 HK0 hn HX
  go_wp2_with fail
  refine (refGroup_yes _ L HM.out _ (HKA.out.below (box_below HX1.out)).r).mono ?_
  rintro e w2 ⟨v2, rfl, HO2, hb2⟩
  have HX2 : Hid (Below (w.heap.size + 1) (w.alloc (.cells #[.slice a L.length cap, .int .i64 f, .int .i64 g] 24)) w2) := HX1.out.trans (hb2.mono HS1.out)
  have HS2 : Hid (w.heap.size + 1 ≤ w2.heap.size) := Nat.le_trans HS1.out hb2.size
  have HO2' : Own w2 (w.heap.size + 1) v2 (jn L) := HO2.mono HS1.out
  clear hb2 HO2 HX1 HS1 k0 k1 k2
  obtain ⟨k0, k1, k2⟩ := kbox HX2.out
  go_wp2_with fail
  refine (refNumber_any f f1 f2 _).mono ?_
  rintro e w3 ⟨v3, rfl, o3, b3⟩
  have HX3 : Hid (Below (w.heap.size + 1) (w.alloc (.cells #[.slice a L.length cap, .int .i64 f, .int .i64 g] 24)) w3) := HX2.out.trans (b3.mono HS2.out)
  have hs3 : w.heap.size + 1 ≤ w3.heap.size := Nat.le_trans HS2.out b3.size
  have HO3 : Own w3 (w.heap.size + 1) v2 (jn L) := HO2'.below b3
  have HR3 : Reads w3 v3 (nb f) := reads_own o3
  obtain ⟨M1, HM1⟩ := hid_ex (jn L ++ nb f)
  clear b3 o3 HO2' HX2 HS2 k0 k1 k2
  have hnl : (nb f).length = 8 := nb_len f
  go_wp2_with (at_builtin; refine wpList_app rfl _ _ rfl (w.heap.size + 1) _ _ (jn L) (nb f) M1 HM1.out rfl rfl HO3 HR3 (by omega) hs3 ?_)
  intro v4 w4 HO4 hb4
  have HX4 : Hid (Below (w.heap.size + 1) (w.alloc (.cells #[.slice a L.length cap, .int .i64 f, .int .i64 g] 24)) w4) := HX3.out.trans hb4.out
  have hs4 : w.heap.size + 1 ≤ w4.heap.size := Nat.le_trans hs3 hb4.out.size
  obtain ⟨k0, k1, k2⟩ := kbox HX4.out
  have HU : Hid (Value.int .u8 g = bc (UInt8.ofNat g.toNat)) := by
    unfold Hid bc
    rw [UInt8.toNat_ofNat', show ((g.toNat % 2 ^ 8 : Nat) : Int) = g by omega]
  obtain ⟨M2, HM2⟩ := hid_ex (M1 ++ [UInt8.ofNat g.toNat])
  have HE : Hid (M2 = kb L f g) := by rw [HM2.out, HM1.out]; rfl
  have hm1 : M1.length ≤ 149 := by rw [HM1.out, List.length_append, nb_len]; omega
  clear hb4 HO3 HR3 HX3 hs3 hnl
  go_wp2_with (at_builtin; refine wpList_app1 rfl _ _ rfl (w.heap.size + 1) _ M1 (UInt8.ofNat g.toNat) M2 HM2.out HU.out rfl rfl HO4 (by omega) hs4 ?_)
  intro v5 w5 HO5 hb5
  have HB5 : Hid (Below w.heap.size w w5) := box_below (HX4.out.trans hb5.out)
  clear hb5 HO4 k0 k1 k2 HX4 HU
  go_wp2_with fail
  go_ret2
  exact ⟨_, rfl, by rw [← HE.out]; exact HO5.mono (by omega), HB5.out⟩
end Go.Proofs.Ytbcdmammedabmaa
