/- What the fixed calls of layer 4's 'alive' come to: true. -/
import Derived.Test.YtpgnifdjjfohcaaC5
namespace Go.Proofs.Ytpgnifdjjfohcaa
open Go.RowKit

def al0 : List UInt8 := [97, 0, 255, 0, 1, 7]
theorem al0_rt : rtF al0 [] 0 = ([97, 0], 5, 0) := by decide
theorem al0_sh : sh 300 = [172, 2] := by
  rw [sh_hi (by omega), sh_lo (by omega)]; rfl
theorem alRead (w : World) : Calls Try.prog 16 #[.slice (some ⟨w.heap.size, 0, none⟩) 6 6] (w.alloc (.cells #[.int .u8 97, .int .u8 0, .int .u8 255, .int .u8 0, .int .u8 1, .int .u8 7] 5)) fun e w' => e = .returned (.tuple #[.string ⟨#[97, 0]⟩, .int .i64 5, .int .i64 0]) ∧ Below (w.alloc (.cells #[.int .u8 97, .int .u8 0, .int .u8 255, .int .u8 0, .int .u8 1, .int .u8 7] 5)).heap.size (w.alloc (.cells #[.int .u8 97, .int .u8 0, .int .u8 255, .int .u8 0, .int .u8 1, .int .u8 7] 5)) w' := by
  have h := readText_any (.slice (some ⟨w.heap.size, 0, none⟩) 6 6) al0 (by decide) (w.alloc (.cells #[.int .u8 97, .int .u8 0, .int .u8 255, .int .u8 0, .int .u8 1, .int .u8 7] 5)) (by
    refine .inr ⟨w.heap.size, 0, 6, rfl, by decide, by decide, by decide, by simp, ?_⟩
    intro j hj
    have hj' : j < 6 := hj
    match j, hj' with
    | 0, _ => simp [go_sem, al0, bc]
    | 1, _ => simp [go_sem, al0, bc]
    | 2, _ => simp [go_sem, al0, bc]
    | 3, _ => simp [go_sem, al0, bc]
    | 4, _ => simp [go_sem, al0, bc]
    | 5, _ => simp [go_sem, al0, bc])
  rw [al0_rt] at h
  exact h
theorem alShort (w : World) : Calls Try.prog 12 #[.int .u64 300] w fun e w' => ∃ v, e = .returned v ∧ w'.ownsRow w.heap.size 5 1 v 2 (([172, 2] : List UInt8).map bc) ∧ Below w.heap.size w w' := by
  have h := short_any 300 (by decide) w
  rw [al0_sh] at h
  exact h
theorem nb_m1 : (nb (-1))[0]'(by rw [nb_len]; omega) = 127 := by decide
set_option maxRecDepth 100000 in
set_option maxHeartbeats 1000000 in
theorem alive_any (w : World) : Calls Try.prog 11 #[] w fun e w' => e = .returned (.bool true) ∧ Below w.heap.size w w' := by
  go_enter Try.func11, Try.ntmps11
  go_wp2_with fail
  refine (readShort_none none 0 _).mono ?_
  rintro e w1 ⟨rfl, hb1⟩
  go_wp2_with fail
  refine (alRead _).mono ?_
  rintro e w2 ⟨rfl, hb2⟩
  have HB2 : Hid (Below w.heap.size w w2) := (hb1.alloc hb1.size _).trans (hb2.mono (by have := hb1.size; simp; omega))
  clear hb1 hb2
  go_wp2_with fail
  refine (alShort _).mono ?_
  rintro e w3 ⟨v, rfl, hown3, hb3⟩
  have hcv := reads_text (reads_own hown3)
  have HB3 : Hid (Below w.heap.size w w3) := HB2.out.trans (hb3.mono HB2.out.size)
  clear hown3 hb3
  go_wp2_with fail
  refine (number_any (-1) (by decide) (by decide) _).mono ?_
  rintro e w4 ⟨x, rfl, hown4, hb4⟩
  obtain ⟨b, off, cap, rfl, _, _, _, _, hc4⟩ | ⟨h, _⟩ := (reads_own hown4).symm
  · have c0 := hc4 0 (by rw [nb_len]; omega)
    rw [nb_m1, show bc 127 = .int .u8 127 from rfl] at c0
    simp only [Nat.add_zero] at c0
    rw [nb_len]
    have HB4 : Hid (Below w.heap.size w w4) := HB3.out.trans (hb4.mono HB3.out.size)
    clear hown4 hb4 hcv hc4
    go_wp2_with fail
    go_ret
    exact ⟨rfl, HB4.out⟩
  · have := nb_len (-1); rw [h] at this; simp at this
end Go.Proofs.Ytpgnifdjjfohcaa
