/- The contract of the reference's Read. -/
import Derived.Test.YtldbglkapopbiaaX3
import Derived.Test.YtldbglkapopbiaaW13
namespace Go.Proofs.Ytldbglkapopbiaa
open Go.RowKit

/-- What the first m bytes of sixteen tell, the least first. -/
def rdF (zs : List Int) (m j : Nat) : Int := if 15 - j < m then zs.getD (15 - j) 0 else 0
/-- The cell of a result that is not yet told. -/
def RBox (w : World) (b : Nat) : Prop := b < w.heap.size ∧ w.cell? ⟨b, 0, none⟩ = some (.int .i64 0) ∧ w.cell? ⟨b, 1, none⟩ = some (.int .u64 0) ∧ w.frozen? ⟨b, 0, none⟩ = false ∧ w.frozen? ⟨b, 1, none⟩ = false
theorem RBox.below {w w' : World} {b : Nat} (h : RBox w b) (hb : Below w.heap.size w w') : RBox w' b := by
  have := hb.size
  obtain ⟨h0, h1, h2, h3, h4⟩ := h
  exact ⟨by omega, (hb.cell (p := ⟨b, 0, none⟩) h0).trans h1, (hb.cell (p := ⟨b, 1, none⟩) h0).trans h2, (hb.frozen (p := ⟨b, 0, none⟩) h0).trans h3, (hb.frozen (p := ⟨b, 1, none⟩) h0).trans h4⟩
theorem RBox.far {w : World} {b b' i : Nat} {u : Value} (h : RBox w b) (hne : b' ≠ b) : RBox (w.setCell ⟨b', i, none⟩ u) b := by
  obtain ⟨h0, h1, h2, h3, h4⟩ := h
  refine ⟨by simp [World.setCell]; exact h0, ?_, ?_, by rw [World.frozen?_setCell]; exact h3, by rw [World.frozen?_setCell]; exact h4⟩
  · rw [World.cell?_setCell_other (h := by intro hh; injection hh with e1 _; exact hne e1)]; exact h1
  · rw [World.cell?_setCell_other (h := by intro hh; injection hh with e1 _; exact hne e1)]; exact h2
set_option maxRecDepth 100000 in
set_option maxHeartbeats 2000000 in
theorem refRead16 (b off cap : Nat) (zs : List Int) (hl : zs.length = 16) (hz : ∀ x ∈ zs, 0 ≤ x ∧ x ≤ 255) (w : World) (hbw : b < w.heap.size)
    (hc : ∀ i, i < 16 → w.cell? ⟨b, off + i, none⟩ = some (.int .u8 (zs.getD i 0))) :
    Calls Try.prog 21 #[.slice (some ⟨b, off, none⟩) 16 cap] w fun e w' => e = .returned (.tuple #[.agg #[.int .i64 (IntKind.i64.wrap (beval (zs.take 8))), .int .u64 (beval (zs.drop 8))], .int .i64 0]) ∧ Below w.heap.size w w' := by
  have HB0 : Hid (∀ o1 o2, Below w.heap.size w ((w.alloc o1).alloc o2)) := fun o1 o2 => ((Below.refl _ _).alloc (by simp) _).alloc (by simp) _
  have HC : Hid (∀ i, i < 16 → w.cell? ⟨b, off + i, none⟩ = some (.int .u8 (zs.getD i 0))) := hc
  have HZ : Hid (∀ x ∈ zs, 0 ≤ x ∧ x ≤ 255) := hz
  have HL : Hid (zs.length = 16) := hl
  clear hc hz hl
  go_enter Try.func21, Try.ntmps21
  go_wp2_with fail
  go_loopw [5] (fun i wr => ∃ m : Nat, m ≤ 16 ∧ i = .int .i64 (m : Int) ∧ DArr wr (w.heap.size + 1) (rdF zs m) ∧ RBox wr w.heap.size ∧ Below w.heap.size w wr) (fun i _ => 16 - (intOf i).toNat)
  case atStart =>
    refine ⟨0, by omega, rfl, ?_, ⟨by simp; omega, by simp [go_sem, World.cell?_alloc_past], by simp [go_sem, World.cell?_alloc_past], by simp [go_sem], by simp [go_sem]⟩, HB0.out _ _⟩
    have h := DArr.new (w.alloc (.cells #[.int .i64 0, .int .u64 0] 24)) (fun _ => 0) 45
    have e : (w.alloc (.cells #[.int .i64 0, .int .u64 0] 24)).heap.size = w.heap.size + 1 := by simp
    rw [e] at h
    exact h.congr (fun j hj => by unfold rdF; simp)
  case round =>
    obtain ⟨m, hm, rfl, hd, hr, hbr⟩ := hrel
    by_cases hlt : m < 16
    · obtain ⟨k, hk⟩ : ∃ k : Nat, (15 - (m : Int)) = (k : Int) := ⟨15 - m, by omega⟩
      have ek : k = 15 - m := by omega
      have c1 := hd.2.1 k (by omega)
      have f1 := hd.2.2 k
      have c2 : wr.cell? ⟨b, off + m, none⟩ = some (.int .u8 (zs.getD m 0)) := (hbr.cell (p := ⟨b, off + m, none⟩) hbw).trans (HC.out m hlt)
      have e1 := HZ.out _ (getD_mem zs m (by have := HL.out; omega))
      have HS : Hid (∀ j, j < 16 → (if j = k then zs.getD m 0 else rdF zs m j) = rdF zs (m + 1) j) := by
        intro j hj
        unfold rdF
        by_cases e : j = k
        · rw [if_pos e, if_pos (by omega)]
          have : 15 - j = m := by omega
          rw [this]
        · rw [if_neg e]
          by_cases e2 : 15 - j < m
          · rw [if_pos e2, if_pos (by omega)]
          · rw [if_neg e2, if_neg (by omega)]
      obtain ⟨x, HX⟩ : ∃ x, Hid (x = zs.getD m 0) := ⟨_, rfl⟩
      rw [← HX.out] at c2 e1
      obtain ⟨x0, x1⟩ := e1
      have w5 : IntKind.i64.wrap x = x := by rw [IntKind.wrap_i64]; omega
      have k16 : (k : Int) < 16 := by omega
      have m16 : (m : Int) < 16 := by omega
      have HB : Hid (Below w.heap.size w wr) := hbr
      have HD : Hid (DArr wr (w.heap.size + 1) (rdF zs m)) := hd
      have HK : Hid (k < 16) := by unfold Hid; omega
      have hi15 : IntKind.i64.wrap (15 - (m : Int)) = (k : Int) := by rw [IntKind.wrap_i64]; omega
      have HR : Hid (RBox wr w.heap.size) := hr
      clear hd hbr ek hr
      go_wp2_with fail
      go_roundw
      case rel =>
        refine ⟨m + 1, by omega, by simp, ((HD.out.set k HK.out x).congr (fun j hj => by rw [HX.out]; exact HS.out j hj)), HR.out.far (by omega), HB.out.setCell (p := ⟨w.heap.size + 1, k, none⟩) (by show w.heap.size ≤ w.heap.size + 1; omega) _⟩
      case measure => simp [intOf]; omega
    · have hm16 : m = 16 := by omega
      subst hm16
      have HF : Hid (∀ j, j < 16 → rdF zs 16 j = zs.getD (15 - j) 0) := fun j hj => by unfold rdF; rw [if_pos (by omega)]
      obtain ⟨d0, d1, d2⟩ := hd
      have c0 := d1 0 (by omega)
      have c1 := d1 1 (by omega)
      have c2 := d1 2 (by omega)
      have c3 := d1 3 (by omega)
      have c4 := d1 4 (by omega)
      have c5 := d1 5 (by omega)
      have c6 := d1 6 (by omega)
      have c7 := d1 7 (by omega)
      have c8 := d1 8 (by omega)
      have c9 := d1 9 (by omega)
      have c10 := d1 10 (by omega)
      have c11 := d1 11 (by omega)
      have c12 := d1 12 (by omega)
      have c13 := d1 13 (by omega)
      have c14 := d1 14 (by omega)
      have c15 := d1 15 (by omega)
      have HB : Hid (Below w.heap.size w wr) := hbr
      have HR : Hid (RBox wr w.heap.size) := hr
      clear d0 d1 d2 hbr hr
      generalize rdF zs 16 = f at *
      go_wp2_with fail
      refine (from_any f zs HL.out HZ.out HF.out wr).mono ?_
      rintro e w' ⟨he, hb2⟩
      obtain ⟨A, HA⟩ : ∃ A, Hid (A = IntKind.i64.wrap (beval (zs.take 8))) := ⟨_, rfl⟩
      rw [← HA.out] at he
      subst he
      have HB2 : Hid (Below w.heap.size w w') := HB.out.trans (hb2.mono HB.out.size)
      obtain ⟨q0, q1, q2, q3, q4⟩ := HR.out.below hb2
      clear hb2
      go_wp2_with fail
      refine bodyPost_ret (v := .tuple #[.agg #[.int .i64 A, .int .u64 (beval (zs.drop 8))], .int .i64 0]) (by simp [results, Try.results21, go_sem, *]) rfl ⟨by rw [HA.out], ?_⟩
      exact (HB2.out.setCell (p := ⟨w.heap.size, 0, none⟩) (Nat.le_refl _) _).setCell (p := ⟨w.heap.size, 1, none⟩) (Nat.le_refl _) _
end Go.Proofs.Ytldbglkapopbiaa
