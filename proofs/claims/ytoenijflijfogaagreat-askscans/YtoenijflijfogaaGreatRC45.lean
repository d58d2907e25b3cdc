/- AL1, joined. -/
import Derived.Test.YtoenijflijfogaaGreatRC44
/- Layer 17: alive. -/
namespace Go.Proofs.YtoenijflijfogaaGreat
open Go.RowKit

set_option maxRecDepth 100000 in
set_option maxHeartbeats 2000000 in
theorem alive17_any (w : World) : Calls Tryz.prog 9 #[] w fun e w' => e = .returned (.bool true) ∧ Below w.heap.size w w' := by
  go_enter Tryz.func9, Tryz.ntmps9
  go_wp2_with fail
  refine (rules_any _).mono ?_
  rintro e w1 ⟨b, rfl, hL1, hb1⟩
  have HB1 : Hid (Below w.heap.size w w1) := hb1
  obtain ⟨w2, HW2⟩ := hid_ex ((((w1.alloc (.cells #[.slice (some ⟨b, 0, none⟩) 2 2, .int .i64 100] 24)).alloc (.cells #[.string ⟨#[97]⟩, .string ⟨#[120]⟩] 9)).alloc (.cells #[.string ⟨#[97]⟩, .string ⟨#[121]⟩] 9)).alloc (.cells #[.slice (some ⟨w1.heap.size + 1, 0, none⟩) 2 2, .int .i64 5, .int .i64 1, .slice (some ⟨w1.heap.size + 1 + 1, 0, none⟩) 2 2, .int .i64 6, .int .i64 2] 63))
  have hb2 : Below w1.heap.size w1 w2 := by rw [HW2.out]; exact ((((Below.refl _ _).alloc (Nat.le_refl _) _).alloc (by simp) _).alloc (by simp; omega) _).alloc (by simp; omega) _
  have HX2 : Hid (w2.heap[w1.heap.size]? = some (.cells #[.slice (some ⟨b, 0, none⟩) 2 2, .int .i64 100] 24)) := by
    rw [HW2.out]; unfold Hid
    rw [Below.heap_alloc _ _ _ (by simp; omega), Below.heap_alloc _ _ _ (by simp; omega), Below.heap_alloc _ _ _ (by simp)]
    exact heap_alloc_new _ _
  have hA : w2.heap[w1.heap.size + 1]? = some (.cells #[.string ⟨#[97]⟩, .string ⟨#[120]⟩] 9) := by
    rw [HW2.out]
    rw [Below.heap_alloc _ _ _ (by simp), Below.heap_alloc _ _ _ (by simp)]
    have := heap_alloc_new (w1.alloc (.cells #[.slice (some ⟨b, 0, none⟩) 2 2, .int .i64 100] 24)) (.cells #[.string ⟨#[97]⟩, .string ⟨#[120]⟩] 9)
    simpa using this
  have hB : w2.heap[w1.heap.size + 1 + 1]? = some (.cells #[.string ⟨#[97]⟩, .string ⟨#[121]⟩] 9) := by
    rw [HW2.out]
    rw [Below.heap_alloc _ _ _ (by simp)]
    have := heap_alloc_new ((w1.alloc (.cells #[.slice (some ⟨b, 0, none⟩) 2 2, .int .i64 100] 24)).alloc (.cells #[.string ⟨#[97]⟩, .string ⟨#[120]⟩] 9)) (.cells #[.string ⟨#[97]⟩, .string ⟨#[121]⟩] 9)
    simpa using this
  have hC : w2.heap[w1.heap.size + 1 + 1 + 1]? = some (.cells #[.slice (some ⟨w1.heap.size + 1, 0, none⟩) 2 2, .int .i64 5, .int .i64 1, .slice (some ⟨w1.heap.size + 1 + 1, 0, none⟩) 2 2, .int .i64 6, .int .i64 2] 63) := by
    rw [HW2.out]
    have := heap_alloc_new (((w1.alloc (.cells #[.slice (some ⟨b, 0, none⟩) 2 2, .int .i64 100] 24)).alloc (.cells #[.string ⟨#[97]⟩, .string ⟨#[120]⟩] 9)).alloc (.cells #[.string ⟨#[97]⟩, .string ⟨#[121]⟩] 9)) (.cells #[.slice (some ⟨w1.heap.size + 1, 0, none⟩) 2 2, .int .i64 5, .int .i64 1, .slice (some ⟨w1.heap.size + 1 + 1, 0, none⟩) 2 2, .int .i64 6, .int .i64 2] 63)
    simpa using this
  have HF2 : Hid (FReads w2 (.slice (some ⟨w1.heap.size + 1 + 1 + 1, 0, none⟩) 2 2) (fs17 (.slice (some ⟨w1.heap.size + 1, 0, none⟩) 2 2) (.slice (some ⟨w1.heap.size + 1 + 1, 0, none⟩) 2 2))) := by
    have h1 := fs17_reads (w := ((w1.alloc (.cells #[.slice (some ⟨b, 0, none⟩) 2 2, .int .i64 100] 24)).alloc (.cells #[.string ⟨#[97]⟩, .string ⟨#[120]⟩] 9)).alloc (.cells #[.string ⟨#[97]⟩, .string ⟨#[121]⟩] 9)) (W := w2) (t := 63) (s17 (by decide) (by decide) hA) (s17 (by decide) (by decide) hB) (by simpa using hC)
    unfold Hid
    simpa using h1
  have HL2 : Hid (Lies (rl15 b) w2.heap.size w2) := hL1.at hb2
  have HB2 : Hid (Below w.heap.size w w2) := HB1.out.trans (hb2.mono HB1.out.size)
  clear hL1 hb1 hb2 hA hB hC
  go_wp2_with fail
  rw [← HW2.out]
  clear HW2
  refine (refEntries_any (rl15 b) (right15 b) _ _ w2 HL2.out HF2.out (show 2 ≤ 100000 by decide) (may17 _ _)).mono ?_
  rintro e w3 ⟨v3, rfl, hE, hb3⟩
  rw [en17] at hE
  have HE3 : Hid (EReads w3 v3 en2) := hE
  have HX3 : Hid (w3.heap[w1.heap.size]? = some (.cells #[.slice (some ⟨b, 0, none⟩) 2 2, .int .i64 100] 24)) := (hb3.block _ (Array.getElem?_eq_some_iff.1 HX2.out).1).trans HX2.out
  have HL3 : Hid (Lies (rl15 b) w3.heap.size w3) := HL2.out.at hb3
  have HB3 : Hid (Below w.heap.size w w3) := HB2.out.trans (hb3.mono HB2.out.size)
  have HKS : Hid (∀ x ∈ en2, x.1.length ≤ 1000) := by
    intro x hx
    rcases List.mem_cons.1 hx with rfl | hx
    · exact (by decide : (kb dAX 5 0).length ≤ 1000)
    · rcases List.mem_cons.1 hx with rfl | hx
      · exact (by decide : (kb dAY 6 0).length ≤ 1000)
      · cases hx
  have x0 := (cell_row HX3.out 0 (by simp)).1
  have x1 := (cell_row HX3.out 1 (by simp)).1
  simp only [List.getElem_toArray, List.getElem_cons_zero, List.getElem_cons_succ] at x0 x1
  have HRC : Hid (Calls Tryz.prog 16 #[.agg #[.slice (some ⟨b, 0, none⟩) 2 2, .int .i64 100], .int .i64 0, v3, .int .i64 1, .int .i64 0, .int .i64 100] w3 (RwPost [⟨[baA], 0, 100, mrg (oneF 1) (oneF 2)⟩] 0 w3)) := by
    have h1 := roll17_any (rl15 b) 0 v3 en2 1 0 100 w3 HL3.out HE3.out (by decide) HKS.out (by decide)
    obtain ⟨h2, h3⟩ := roll17 b (.slice none 0 0) (.slice none 0 0)
    rw [h2, h3] at h1
    exact h1
  clear hE hb3 HX2 HL2 HF2 HB1 HB2
  go_wp2_with fail
  refine HRC.out.mono ?_
  clear HRC x0 x1
  rintro e w4 ⟨hb4, ra, rc, ys, rfl, hr4, hm4, _⟩
  have HB4 : Hid (Below w.heap.size w w4) := HB3.out.trans (hb4.mono HB3.out.size)
  have HX4 : Hid (w4.heap[w1.heap.size]? = some (.cells #[.slice (some ⟨b, 0, none⟩) 2 2, .int .i64 100] 24)) := (hb4.block _ (Array.getElem?_eq_some_iff.1 HX3.out).1).trans HX3.out
  have HL4 : Hid (Lies (rl15 b) w4.heap.size w4) := HL3.out.at hb4
  have HE4 : Hid (EReads w4 v3 en2) := HE3.out.below hb4
  obtain ⟨y, rfl⟩ : ∃ y, ys = [y] := by
    have := congrArg List.length hm4
    rw [List.length_map] at this
    exact List.length_eq_one_iff.1 this
  have hy : itR y = ⟨[baA], 0, 100, mrg (oneF 1) (oneF 2)⟩ := by simpa using hm4
  obtain ⟨yv, yD, yf, yz, ya⟩ := y
  simp only [itR, Rw.mk.injEq] at hy
  obtain ⟨rfl, _, _, rfl⟩ := hy
  obtain ⟨gb, go, rfl, hgl, hc9, hs9⟩ := TReads.at hr4 (j := 0) (by simp)
  obtain ⟨va, vc, hv, -⟩ := hs9.form
  simp only [List.getElem_cons_zero] at hv
  subst hv
  have q0 : w4.cell? ⟨gb, go, none⟩ = some (.slice va 1 vc) := hc9 0 (by decide)
  have q1 : w4.cell? ⟨gb, go + 3, none⟩ = some (.int .u64 2) := hc9 3 (by decide)
  have Q : Hid (w4.cell? ⟨gb, go, none⟩ = some (.slice va 1 vc) ∧ w4.cell? ⟨gb, go + 3, none⟩ = some (.int .u64 2) ∧ gb < w4.heap.size) := ⟨q0, q1, hgl⟩
  obtain ⟨w5, HW5⟩ := hid_ex (w4.alloc (.cells #[.string ⟨#[97]⟩, .string ⟨#[121]⟩] 9))
  have hb5 : Below w4.heap.size w4 w5 := by rw [HW5.out]; exact new_below _ _
  have HD5 : Hid (SReads w5 (.slice (some ⟨w4.heap.size, 0, none⟩) 2 2) dAY) := s17 (by decide) (by decide) (by rw [HW5.out]; exact heap_alloc_new _ _)
  have HX5 : Hid (w5.heap[w1.heap.size]? = some (.cells #[.slice (some ⟨b, 0, none⟩) 2 2, .int .i64 100] 24)) := (hb5.block _ (Array.getElem?_eq_some_iff.1 HX4.out).1).trans HX4.out
  have HGC : Hid (Calls Tryz.prog 10 #[.agg #[.slice (some ⟨b, 0, none⟩) 2 2, .int .i64 100], .int .i64 0, v3, .slice (some ⟨w4.heap.size, 0, none⟩) 2 2, .int .i64 6] w5 (G17 (rl15 b) 0 en2 dAY 6 w5)) := get17_any (rl15 b) 0 v3 en2 _ dAY 6 w5 (HL4.out.at hb5) (HE4.out.below hb5) (by decide) HKS.out HD5.out (by decide) (by decide)
  have HB5 : Hid (Below w.heap.size w w5) := HB4.out.trans (hb5.mono HB4.out.size)
  have x0 := (cell_row HX4.out 0 (by simp)).1
  have x1 := (cell_row HX4.out 1 (by simp)).1
  simp only [List.getElem_toArray, List.getElem_cons_zero, List.getElem_cons_succ] at x0 x1
  have z0 := (hb5.cell (p := ⟨gb, go, none⟩) hgl).trans q0
  have z1 := (hb5.cell (p := ⟨gb, go + 3, none⟩) hgl).trans q1
  have HZ : Hid (w5.cell? ⟨gb, go, none⟩ = some (.slice va 1 vc) ∧ w5.cell? ⟨gb, go + 3, none⟩ = some (.int .u64 2) ∧ gb < w5.heap.size) := ⟨z0, z1, Nat.lt_of_lt_of_le hgl hb5.size⟩
  clear hb4 hr4 hm4 hc9 hs9 q0 q1 z0 z1 hgl hb5 HX3 HL3 HE3 HB3 Q HE4 HL4
  go_wp2_with fail
  rw [← HW5.out]
  clear HW5
  refine HGC.out.mono ?_
  clear HGC x0 x1
  rintro e w6 ⟨hb6, ⟨h, _⟩ | ⟨_, h, _⟩ | ⟨_, _, r, rfl, hr, hi⟩⟩
  · exact absurd (chk17 b (.slice none 0 0) (.slice none 0 0)) h
  · exact absurd (show rightBK dAY 6 0 = true by decide) (by rw [h]; simp)
  rw [get17] at hi
  obtain ⟨xv, xD, xf, xz, xa⟩ := r
  simp only [itR, Rw.mk.injEq] at hi
  obtain ⟨rfl, rfl, rfl, rfl⟩ := hi
  have HB6 : Hid (Below w.heap.size w w6) := HB5.out.trans (hb6.mono HB5.out.size)
  have q0 := (hb6.cell (p := ⟨gb, go, none⟩) HZ.out.2.2).trans HZ.out.1
  have q1 := (hb6.cell (p := ⟨gb, go + 3, none⟩) HZ.out.2.2).trans HZ.out.2.1
  obtain ⟨xa, xc, hv, -⟩ := hr.form
  simp only at hv
  subst hv
  have hlt := Nat.lt_of_lt_of_le HZ.out.2.2 hb6.size
  clear hb6 hr HB5 HZ HX5 HD5
  have q2 : ∀ o, (w6.alloc o).cell? ⟨gb, go, none⟩ = some (.slice va 1 vc) := fun o => (World.cell?_of_block (Below.heap_alloc _ _ _ hlt)).trans q0
  have q3 : ∀ o, (w6.alloc o).cell? ⟨gb, go + 3, none⟩ = some (.int .u64 2) := fun o => (World.cell?_of_block (Below.heap_alloc _ _ _ hlt)).trans q1
  have HE : Hid (∀ o, Below w.heap.size w (w6.alloc o)) := fun o => HB6.out.alloc HB6.out.size o
  have e9 : (c9 ⟨.slice xa dAY.length xc, dAY, 6, 1, oneF 2⟩).toArray = #[.slice xa 2 xc, .int .i64 6, .int .i64 1, .int .u64 1, .bool false, .int .i64 0, .int .u64 2, .int .i64 2, .int .i64 2] := by kernel_rfl
  rw [e9]
  clear e9
  go_wp2_with fail
  go_ret
  exact ⟨rfl, HE.out _⟩
end Go.Proofs.YtoenijflijfogaaGreat
