/- The walk of BloomNobody. -/
import Derived.Test.YtgdjjpnejdedhaaB9
namespace Go.Proofs.Ytgdjjpnejdedhaa
open Go.RowKit

set_option maxRecDepth 100000 in
set_option maxHeartbeats 1000000 in
theorem nobody_walk (v : Value) (l : List UInt8) (w : World) (hR : Reads w v l) :
    Calls Try.prog 5 #[v] w fun e w' => e = .returned (.bool true) ∧ Below w.heap.size w w' := by
  obtain ⟨a, cap, rfl, _⟩ := hR.form
  clear hR
  by_cases g : (1000 : Int) < (l.length : Int)
  · go_enter Try.func5, Try.ntmps5
    go_wp2_with fail
    refine (alive_any _).mono ?_
    rintro e w1 ⟨rfl, hb1⟩
    go_wp2_with fail
    go_ret
    exact ⟨rfl, hb1⟩
  · have hal := (Below.refl w.heap.size w).alloc (Nat.le_refl _) (.cells #[.int .i64 0, .slice none 0 0] 46)
    have c0 := cell_of (World.alloc_heap_new w (.cells #[.int .i64 0, .slice none 0 0] 46)) 0 (by simp)
    simp only [List.getElem_toArray, List.getElem_cons_zero] at c0
    have HG0 : Hid (NoF (w.alloc (.cells #[.int .i64 0, .slice none 0 0] 46)) (some ⟨w.heap.size, 0, none⟩)) := .inr ⟨_, rfl, by simp, c0⟩
    obtain ⟨w0, HW0⟩ := hid_ex (w.alloc (.cells #[.int .i64 0, .slice none 0 0] 46))
    have HB0 : Hid (Below w.heap.size w w0) := by rw [HW0.out]; exact hal
    rw [← HW0.out] at HG0
    clear hal c0
    go_enter Try.func5, Try.ntmps5
    go_wp2_with fail
    rw [← HW0.out]
    refine (write_no none _ (.inl rfl)).mono ?_
    rintro e w1 ⟨rfl, hw⟩
    subst w1
    go_wp2_with fail
    refine (write_no _ _ HG0.out).mono ?_
    rintro e w1 ⟨rfl, hw⟩
    subst w1
    go_wp2_with fail
    refine (alive_any _).mono ?_
    rintro e w1 ⟨rfl, hb1⟩
    have HB1 : Hid (Below w.heap.size w w1) := HB0.out.trans (hb1.mono HB0.out.size)
    have HG1 : Hid (NoF w1 (some ⟨w.heap.size, 0, none⟩)) := HG0.out.below hb1
    clear hb1 HB0 HG0
    go_wp2_with fail
    refine (may_no none a l.length cap _ (.inl rfl)).mono ?_
    rintro e w2 ⟨rfl, hb2⟩
    have HB2 : Hid (Below w.heap.size w w2) := HB1.out.trans (hb2.mono HB1.out.size)
    have HG2 : Hid (NoF w2 (some ⟨w.heap.size, 0, none⟩)) := HG1.out.below hb2
    clear hb2 HB1 HG1
    go_wp2_with fail
    refine (may_no _ a l.length cap _ HG2.out).mono ?_
    rintro e w3 ⟨rfl, hb3⟩
    have HB3 : Hid (Below w.heap.size w w3) := HB2.out.trans (hb3.mono HB2.out.size)
    have HG3 : Hid (NoF w3 (some ⟨w.heap.size, 0, none⟩)) := HG2.out.below hb3
    clear hb3 HB2 HG2
    go_wp2_with fail
    refine (add_no none a l.length cap _ (.inl rfl)).mono ?_
    rintro e w4 ⟨rfl, hb4⟩
    have HB4 : Hid (Below w.heap.size w w4) := HB3.out.trans (hb4.mono HB3.out.size)
    have HG4 : Hid (NoF w4 (some ⟨w.heap.size, 0, none⟩)) := HG3.out.below hb4
    clear hb4 HB3 HG3
    go_wp2_with fail
    refine (add_no _ a l.length cap _ HG4.out).mono ?_
    rintro e w5 ⟨rfl, hb5⟩
    have HB5 : Hid (Below w.heap.size w w5) := HB4.out.trans (hb5.mono HB4.out.size)
    clear hb5 HB4 HG4
    go_wp2_with fail
    go_ret
    exact ⟨rfl, HB5.out⟩
end Go.Proofs.Ytgdjjpnejdedhaa
