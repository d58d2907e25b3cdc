/- The walk of AggSticky: whatever is known, it returns true. -/
import Derived.Test.YtaleggnhdodcdacA4
import Derived.Test.YtaleggnhdodcdacOA
namespace Go.Proofs.Ytaleggnhdodcdac
open Go.RowKit

/-- A box of what is known, whole. -/
def FBox (a : Ag) (b : Nat) (w : World) : Prop := b < w.heap.size ∧ w.cell? ⟨b, 0, none⟩ = some (.int .u64 a.c) ∧ w.cell? ⟨b, 1, none⟩ = some (.bool a.o) ∧ w.cell? ⟨b, 2, none⟩ = some (.int .i64 (hi a.s)) ∧ w.cell? ⟨b, 3, none⟩ = some (.int .u64 (lo a.s)) ∧ w.cell? ⟨b, 4, none⟩ = some (.int .i64 a.mn) ∧ w.cell? ⟨b, 5, none⟩ = some (.int .i64 a.mx)
theorem FBox.below {a : Ag} {b : Nat} {w1 w2 : World} (h : FBox a b w1) (hb : Below w1.heap.size w1 w2) : FBox a b w2 := by
  obtain ⟨h0, h1, h2, h3, h4, h5, h6⟩ := h
  have := hb.size
  exact ⟨by omega, bcellA hb h0 h1, bcellA hb h0 h2, bcellA hb h0 h3, bcellA hb h0 h4, bcellA hb h0 h5, bcellA hb h0 h6⟩
theorem FBox.al {a : Ag} {b : Nat} {w1 : World} {o : Obj} (h : FBox a b w1) : FBox a b (w1.alloc o) := by
  obtain ⟨h0, h1, h2, h3, h4, h5, h6⟩ := h
  exact ⟨by simp; omega, cell_al h1 h0, cell_al h2 h0, cell_al h3 h0, cell_al h4 h0, cell_al h5 h0, cell_al h6 h0⟩
theorem FBox.new (a : Ag) (w : World) : FBox a w.heap.size (w.alloc (.cells #[.int .u64 a.c, .bool a.o, .int .i64 (hi a.s), .int .u64 (lo a.s), .int .i64 a.mn, .int .i64 a.mx] 26)) := by
  refine ⟨by simp, ?_, ?_, ?_, ?_, ?_, ?_⟩ <;> simp

theorem FBox.new1 (a : Ag) (o : Obj) (w : World) : FBox a (w.heap.size + 1) ((w.alloc o).alloc (.cells #[.int .u64 a.c, .bool a.o, .int .i64 (hi a.s), .int .u64 (lo a.s), .int .i64 a.mn, .int .i64 a.mx] 26)) := by
  have h := FBox.new a (w.alloc o)
  rw [World.size_alloc] at h
  exact h
theorem right_cases (a : Ag) (h : rightB a = true) : (a.c = 0 ∧ a.o = false) ∨ (a.c ≠ 0 ∧ a.mn ≤ a.mx ∧ (a.o = false ∨ a.c = 18446744073709551615)) := by
  unfold rightB at h
  by_cases hc : a.c = 0
  · rw [if_pos hc] at h
    left; refine ⟨hc, ?_⟩
    cases ho : a.o
    · rfl
    · rw [ho] at h; simp at h
  · rw [if_neg hc] at h
    right; refine ⟨hc, ?_, ?_⟩
    · simp at h; exact h.1
    · simp at h; exact h.2
theorem sticky_over (a b : Ag) (ha : rightB a = true) (hb : rightB b = true) (a1 : AgOk a) (b1 : AgOk b) (ho : a.o = true ∨ b.o = true) : (mrg a b).o = true ∧ (mrg a b).c = 18446744073709551615 := by
  have ac := right_cases a ha; have bc := right_cases b hb
  have := a1.c1; have := a1.c2; have := b1.c1; have := b1.c2
  by_cases h1 : a.c = 0
  · have e : mrg a b = b := by unfold mrg; rw [if_pos h1]
    have hao : a.o = false := by rcases ac with ⟨_, h⟩ | ⟨h, _⟩; exact h; exact absurd h1 h
    have hbo : b.o = true := by rcases ho with h | h; rw [hao] at h; cases h; exact h
    rw [e]; refine ⟨hbo, ?_⟩
    rcases bc with ⟨_, h⟩ | ⟨_, _, h | h⟩
    · rw [hbo] at h; cases h
    · rw [hbo] at h; cases h
    · exact h
  · by_cases h2 : b.c = 0
    · have e : mrg a b = a := by unfold mrg; rw [if_neg h1, if_pos h2]
      have hbo : b.o = false := by rcases bc with ⟨_, h⟩ | ⟨h, _⟩; exact h; exact absurd h2 h
      have hao : a.o = true := by rcases ho with h | h; exact h; rw [hbo] at h; cases h
      rw [e]; refine ⟨hao, ?_⟩
      rcases ac with ⟨_, h⟩ | ⟨_, _, h | h⟩
      · rw [hao] at h; cases h
      · rw [hao] at h; cases h
      · exact h
    · rw [mrg_both a b h1 h2]
      have hbig : 18446744073709551616 ≤ a.c + b.c := by
        rcases ho with h | h
        · rcases ac with ⟨_, g⟩ | ⟨_, _, g | g⟩
          · rw [h] at g; cases g
          · rw [h] at g; cases g
          · omega
        · rcases bc with ⟨_, g⟩ | ⟨_, _, g | g⟩
          · rw [h] at g; cases g
          · rw [h] at g; cases g
          · omega
      refine ⟨?_, ?_⟩
      · show (ovF a.c b.c || a.o || b.o) = true
        rcases ho with h | h <;> simp [h]
      · show cntF a.c b.c = _
        unfold cntF; rw [if_neg (by omega)]
theorem sticky_more (a b : Ag) (g1 : a.o = false) (g2 : b.o = false) (g3 : (mrg a b).o = true) : 18446744073709551615 - b.c < a.c ∧ (mrg a b).c = 18446744073709551615 := by
  by_cases h1 : a.c = 0
  · have e : mrg a b = b := by unfold mrg; rw [if_pos h1]
    rw [e, g2] at g3; cases g3
  · by_cases h2 : b.c = 0
    · have e : mrg a b = a := by unfold mrg; rw [if_neg h1, if_pos h2]
      rw [e, g1] at g3; cases g3
    · rw [mrg_both a b h1 h2] at g3 ⊢
      have g4 : (ovF a.c b.c || a.o || b.o) = true := g3
      rw [g1, g2] at g4
      have hbig : 18446744073709551616 ≤ a.c + b.c := by simpa [ovF] using g4
      refine ⟨by omega, ?_⟩
      show cntF a.c b.c = _
      unfold cntF; rw [if_neg (by omega)]
theorem sticky_exact (a b : Ag) (g3 : (mrg a b).o = false) : (mrg a b).c = a.c + b.c := by
  by_cases h1 : a.c = 0
  · have e : mrg a b = b := by unfold mrg; rw [if_pos h1]
    rw [e, h1]; omega
  · by_cases h2 : b.c = 0
    · have e : mrg a b = a := by unfold mrg; rw [if_neg h1, if_pos h2]
      rw [e, h2]; omega
    · rw [mrg_both a b h1 h2] at g3 ⊢
      have g4 : (ovF a.c b.c || a.o || b.o) = false := g3
      have hsm : a.c + b.c < 18446744073709551616 := by
        have : ovF a.c b.c = false := by cases h : ovF a.c b.c; rfl; rw [h] at g4; simp at g4
        simpa [ovF] using this
      show cntF a.c b.c = _
      unfold cntF; rw [if_pos hsm]
set_option maxRecDepth 100000 in
set_option maxHeartbeats 2000000 in
theorem sticky_no (a b : Ag) (h : rightB a = false ∨ (rightB a = true ∧ rightB b = false)) (w : World) :
    Calls Try.prog 5 #[.agg #[.int .u64 a.c, .bool a.o, .int .i64 (hi a.s), .int .u64 (lo a.s), .int .i64 a.mn, .int .i64 a.mx], .agg #[.int .u64 b.c, .bool b.o, .int .i64 (hi b.s), .int .u64 (lo b.s), .int .i64 b.mn, .int .i64 b.mx]] w fun e w' => e = .returned (.bool true) ∧ Below w.heap.size w w' := by
  have H : Hid _ := h
  clear h
  go_enter Try.func5, Try.ntmps5
  go_wp2_with fail
  refine (right_any a _).mono ?_
  rintro e w1 ⟨rfl, hb1⟩
  have HB1 : Hid (Below w.heap.size w w1) := (((Below.refl _ _).alloc (by simp) _).alloc (by simp) _).trans (hb1.mono (by simp; omega))
  have hy : FBox b (w.heap.size + 1) w1 := (FBox.new1 b _ w).below hb1
  obtain ⟨j0, j1, j2, j3, j4, j5, j6⟩ := hy
  rcases H.out with h | ⟨h, h'⟩
  · rw [h]
    clear hb1 h
    go_wp2_with fail
    refine (alive2_any _).mono ?_
    rintro e w2 ⟨rfl, hb2⟩
    have HB2 : Hid (Below w.heap.size w w2) := HB1.out.trans (hb2.mono HB1.out.size)
    clear hb2
    go_wp2_with fail
    go_ret
    exact ⟨rfl, HB2.out⟩
  · rw [h]
    have H' : Hid _ := h'
    clear hb1 h h'
    go_wp2_with fail
    refine (right_any b _).mono ?_
    rw [H'.out]
    rintro e w2 ⟨rfl, hb2⟩
    have HB2 : Hid (Below w.heap.size w w2) := HB1.out.trans (hb2.mono HB1.out.size)
    clear hb2
    go_wp2_with fail
    refine (alive2_any _).mono ?_
    rintro e w3 ⟨rfl, hb3⟩
    have HB3 : Hid (Below w.heap.size w w3) := HB2.out.trans (hb3.mono HB2.out.size)
    clear hb3
    go_wp2_with fail
    go_ret
    exact ⟨rfl, HB3.out⟩

set_option maxRecDepth 100000 in
set_option maxHeartbeats 2000000 in
theorem sticky_yes (a b : Ag) (ha : rightB a = true) (hb : rightB b = true) (a1 : AgOk a) (b1 : AgOk b) (w : World) :
    Calls Try.prog 5 #[.agg #[.int .u64 a.c, .bool a.o, .int .i64 (hi a.s), .int .u64 (lo a.s), .int .i64 a.mn, .int .i64 a.mx], .agg #[.int .u64 b.c, .bool b.o, .int .i64 (hi b.s), .int .u64 (lo b.s), .int .i64 b.mn, .int .i64 b.mx]] w fun e w' => e = .returned (.bool true) ∧ Below w.heap.size w w' := by
  have HA : Hid _ := ha
  have HBR : Hid _ := hb
  clear ha hb
  go_enter Try.func5, Try.ntmps5
  go_wp2_with fail
  refine (right_any a _).mono ?_
  rw [HA.out]
  rintro e w1 ⟨rfl, hb1⟩
  have HB1 : Hid (Below w.heap.size w w1) := (((Below.refl _ _).alloc (by simp) _).alloc (by simp) _).trans (hb1.mono (by simp; omega))
  have HY1 : Hid (FBox b (w.heap.size + 1) w1) := (FBox.new1 b _ w).below hb1
  have HX1 : Hid (FBox a w.heap.size w1) := ((FBox.new a w).al).below hb1
  obtain ⟨_, j1, j2, j3, j4, j5, j6⟩ := HY1.out
  clear hb1
  go_wp2_with fail
  clear j1 j2 j3 j4 j5 j6
  refine (right_any b _).mono ?_
  rw [HBR.out]
  rintro e w2 ⟨rfl, hb2⟩
  have HB2 : Hid (Below w.heap.size w w2) := HB1.out.trans (hb2.mono HB1.out.size)
  have HY2 : Hid (FBox b (w.heap.size + 1) w2) := HY1.out.below hb2
  have HX2 : Hid (FBox a w.heap.size w2) := HX1.out.below hb2
  obtain ⟨_, j1, j2, j3, j4, j5, j6⟩ := HY2.out
  obtain ⟨_, l1, l2, l3, l4, l5, l6⟩ := HX2.out
  clear hb2
  go_wp2_with fail
  clear j1 j2 j3 j4 j5 j6 l1 l2 l3 l4 l5 l6
  refine (merge_any a b a1.c1 a1.c2 b1.c1 b1.c2 _).mono ?_
  rintro e w3 ⟨rfl, hb3⟩
  have HB3 : Hid (Below w.heap.size w w3) := HB2.out.trans (hb3.mono HB2.out.size)
  have HY3 : Hid (FBox b (w.heap.size + 1) w3) := HY2.out.below hb3
  have HX3 : Hid (FBox a w.heap.size w3) := HX2.out.below hb3
  obtain ⟨j0, j1, j2, j3, j4, j5, j6⟩ := HY3.out
  obtain ⟨l0, l1, l2, l3, l4, l5, l6⟩ := HX3.out
  clear hb3

  have SO : Hid (a.o = true ∨ b.o = true → (mrg a b).o = true ∧ (mrg a b).c = 18446744073709551615) := fun h => sticky_over a b HA.out HBR.out a1 b1 h
  have SM : Hid (a.o = false → b.o = false → (mrg a b).o = true → 18446744073709551615 - b.c < a.c ∧ (mrg a b).c = 18446744073709551615) := fun h1 h2 h3 => sticky_more a b h1 h2 h3
  have SE : Hid ((mrg a b).o = false → (mrg a b).c = a.c + b.c) := fun h => sticky_exact a b h
  generalize hm : mrg a b = m at *
  have WS : Hid (m.c = a.c + b.c → IntKind.u64.wrap (m.c - a.c) = b.c ∧ a.c ≤ m.c) := by
    intro h; have := b1.c1; have := b1.c2; rw [h, IntKind.wrap_u64]; omega
  have WM : Hid (IntKind.u64.wrap (18446744073709551615 - b.c) = 18446744073709551615 - b.c) := by
    have := b1.c1; have := b1.c2; unfold Hid; rw [IntKind.wrap_u64]; omega
  clear hm a1 b1 HA HBR HB1 HB2 HX1 HX2 HY1 HY2
  cases hao : a.o
  · cases hbo : b.o
    · rw [hao] at l2
      rw [hbo] at j2
      cases hmo : m.o
      · obtain ⟨e1, e2⟩ := WS.out (SE.out hmo)
        have b1 : (IntKind.u64.wrap (m.c - a.c) == b.c) = true := by simp [e1]
        have b2 : decide (a.c ≤ m.c) = true := by simpa using e2
        clear e1 e2 SO SM SE WS WM hao hbo hmo
        go_wp2_with fail
        clear j1 j2 j3 j4 j5 j6 l1 l2 l3 l4 l5 l6
        refine (alive2_any _).mono ?_
        rintro e w4 ⟨rfl, hb4⟩
        have p0 := hb4.cell (p := ⟨w3.heap.size, 0, none⟩) (by simp)
        have p1 := hb4.cell (p := ⟨w3.heap.size, 1, none⟩) (by simp)
        simp [go_sem] at p0 p1
        obtain ⟨_, j1, j2, j3, j4, j5, j6⟩ := (HY3.out.al).below hb4
        obtain ⟨_, l1, l2, l3, l4, l5, l6⟩ := (HX3.out.al).below hb4
        have HB4 : Hid (Below w.heap.size w w4) := (HB3.out.alloc HB3.out.size _).trans (hb4.mono (by have := HB3.out.size; simp; omega))
        clear hb4 j2 j3 j4 j5 j6 l2 l3 l4 l5 l6

        go_wp2_with fail
        go_ret
        exact ⟨rfl, HB4.out⟩
      · obtain ⟨e1, e2⟩ := SM.out hao hbo hmo
        have b1 : decide (18446744073709551615 - b.c < a.c) = true := by simpa using e1
        have b2 : (m.c == 18446744073709551615) = true := by simp [e2]
        have wm := WM.out
        clear e1 e2 SO SM SE WS WM hao hbo hmo
        go_wp2_with fail
        clear j1 j2 j3 j4 j5 j6 l1 l2 l3 l4 l5 l6
        refine (alive2_any _).mono ?_
        rintro e w4 ⟨rfl, hb4⟩
        have p0 := hb4.cell (p := ⟨w3.heap.size, 0, none⟩) (by simp)
        have p1 := hb4.cell (p := ⟨w3.heap.size, 1, none⟩) (by simp)
        simp [go_sem] at p0 p1
        obtain ⟨_, j1, j2, j3, j4, j5, j6⟩ := (HY3.out.al).below hb4
        obtain ⟨_, l1, l2, l3, l4, l5, l6⟩ := (HX3.out.al).below hb4
        have HB4 : Hid (Below w.heap.size w w4) := (HB3.out.alloc HB3.out.size _).trans (hb4.mono (by have := HB3.out.size; simp; omega))
        clear hb4 j2 j3 j4 j5 j6 l2 l3 l4 l5 l6

        go_wp2_with fail
        go_ret
        exact ⟨rfl, HB4.out⟩
    · obtain ⟨e1, e2⟩ := SO.out (.inr hbo)
      rw [hao] at l2
      rw [hbo] at j2
      have b2 : (m.c == 18446744073709551615) = true := by simp [e2]
      rw [e1]
      clear e1 e2 SO SM SE WS WM hao hbo
      go_wp2_with fail
      clear j1 j2 j3 j4 j5 j6 l1 l2 l3 l4 l5 l6
      refine (alive2_any _).mono ?_
      rintro e w4 ⟨rfl, hb4⟩
      have p0 := hb4.cell (p := ⟨w3.heap.size, 0, none⟩) (by simp)
      have p1 := hb4.cell (p := ⟨w3.heap.size, 1, none⟩) (by simp)
      simp [go_sem] at p0 p1
      obtain ⟨_, j1, j2, j3, j4, j5, j6⟩ := (HY3.out.al).below hb4
      obtain ⟨_, l1, l2, l3, l4, l5, l6⟩ := (HX3.out.al).below hb4
      have HB4 : Hid (Below w.heap.size w w4) := (HB3.out.alloc HB3.out.size _).trans (hb4.mono (by have := HB3.out.size; simp; omega))
      clear hb4 j2 j3 j4 j5 j6 l2 l3 l4 l5 l6

      go_wp2_with fail
      go_ret
      exact ⟨rfl, HB4.out⟩
  · obtain ⟨e1, e2⟩ := SO.out (.inl hao)
    rw [hao] at l2
    have b2 : (m.c == 18446744073709551615) = true := by simp [e2]
    rw [e1]
    clear e1 e2 SO SM SE WS WM hao
    go_wp2_with fail
    clear j1 j2 j3 j4 j5 j6 l1 l2 l3 l4 l5 l6
    refine (alive2_any _).mono ?_
    rintro e w4 ⟨rfl, hb4⟩
    have p0 := hb4.cell (p := ⟨w3.heap.size, 0, none⟩) (by simp)
    have p1 := hb4.cell (p := ⟨w3.heap.size, 1, none⟩) (by simp)
    simp [go_sem] at p0 p1
    obtain ⟨_, j1, j2, j3, j4, j5, j6⟩ := (HY3.out.al).below hb4
    obtain ⟨_, l1, l2, l3, l4, l5, l6⟩ := (HX3.out.al).below hb4
    have HB4 : Hid (Below w.heap.size w w4) := (HB3.out.alloc HB3.out.size _).trans (hb4.mono (by have := HB3.out.size; simp; omega))
    clear hb4 j2 j3 j4 j5 j6 l2 l3 l4 l5 l6

    go_wp2_with fail
    go_ret
    exact ⟨rfl, HB4.out⟩

theorem stickyWalk (a b : Ag) (w : World) (a1 : AgOk a) (b1 : AgOk b) :
    Calls Try.prog 5 #[.agg #[.int .u64 a.c, .bool a.o, .int .i64 (hi a.s), .int .u64 (lo a.s), .int .i64 a.mn, .int .i64 a.mx], .agg #[.int .u64 b.c, .bool b.o, .int .i64 (hi b.s), .int .u64 (lo b.s), .int .i64 b.mn, .int .i64 b.mx]] w fun e w' => e = .returned (.bool true) ∧ Below w.heap.size w w' := by
  cases ha : rightB a
  · exact sticky_no a b (.inl ha) w
  · cases hb : rightB b
    · exact sticky_no a b (.inr ⟨ha, hb⟩) w
    · exact sticky_yes a b ha hb a1 b1 w
end Go.Proofs.Ytaleggnhdodcdac
