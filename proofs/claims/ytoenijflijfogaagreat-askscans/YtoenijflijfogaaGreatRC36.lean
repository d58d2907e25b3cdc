/- XM, joined. -/
import Derived.Test.YtoenijflijfogaaGreatRC35
/- The contracts of the reference's Of, Minus, Times. -/
namespace Go.Proofs.YtoenijflijfogaaGreat
open Go.RowKit

/-- A number's box that can be written. -/
def Nb (x : Int) (b : Nat) (w : World) : Prop := b < w.heap.size ∧ w.cell? ⟨b, 0, none⟩ = some (.int .i64 (hi x)) ∧ w.cell? ⟨b, 1, none⟩ = some (.int .u64 (lo x)) ∧ ∀ o, w.frozen? ⟨b, o, none⟩ = false
theorem Nb.below {x : Int} {b : Nat} {w1 w2 : World} (h : Nb x b w1) (hb : Below w1.heap.size w1 w2) : Nb x b w2 := by
  obtain ⟨h0, h1, h2, h3⟩ := h
  have := hb.size
  exact ⟨by omega, (hb.cell (p := ⟨b, 0, none⟩) h0).trans h1, (hb.cell (p := ⟨b, 1, none⟩) h0).trans h2, fun o => (hb.frozen (p := ⟨b, o, none⟩) h0).trans (h3 o)⟩
theorem Nb.far {x : Int} {b b' i : Nat} {u : Value} {w : World} (h : Nb x b w) (hne : b' ≠ b) : Nb x b (w.setCell ⟨b', i, none⟩ u) := by
  obtain ⟨h0, h1, h2, h3⟩ := h
  refine ⟨by simp [World.setCell]; exact h0, ?_, ?_, fun o => by rw [World.frozen?_setCell]; exact h3 o⟩
  · rw [World.cell?_setCell_other (h := by intro e; injection e with e1 _; exact hne e1)]; exact h1
  · rw [World.cell?_setCell_other (h := by intro e; injection e with e1 _; exact hne e1)]; exact h2
theorem Nb.set {x y : Int} {b : Nat} {w : World} (h : Nb x b w) : Nb y b ((w.setCell ⟨b, 0, none⟩ (.int .i64 (hi y))).setCell ⟨b, 1, none⟩ (.int .u64 (lo y))) := by
  obtain ⟨h0, h1, h2, h3⟩ := h
  refine ⟨by simp [World.setCell]; exact h0, ?_, ?_, fun o => by rw [World.frozen?_setCell, World.frozen?_setCell]; exact h3 o⟩
  · rw [World.cell?_setCell_other (h := by simp)]; exact World.cell?_setCell_same _ _ _ h1
  · have q : (w.setCell ⟨b, 0, none⟩ (.int .i64 (hi y))).cell? ⟨b, 1, none⟩ = some (.int .u64 (lo x)) := by
      rw [World.cell?_setCell_other (h := by simp)]; exact h2
    exact World.cell?_setCell_same _ _ _ q
set_option maxHeartbeats 1000000 in
theorem refOf_any (v : Int) (h1 : -9223372036854775808 ≤ v) (h2 : v ≤ 9223372036854775807) (w : World) :
    Calls Tryz.prog 61 #[.int .i64 v] w fun e w' => e = .returned (wv v) ∧ Below w.heap.size w w' := by
  have EL : Hid (IntKind.u64.wrap v = lo v) := by unfold Hid lo; rw [IntKind.wrap_u64]
  by_cases hv : v < 0
  · have EH : Hid (hi v = -1) := by unfold Hid hi; omega
    have b1 : decide (v < 0) = true := by simpa using hv
    clear hv h1 h2
    go_enter Tryz.func61, Tryz.ntmps61
    go_wp2_with fail
    refine bodyPost_ret (v := .agg #[.int .i64 (-1), .int .u64 (IntKind.u64.wrap v)]) (by simp [results, Tryz.results61, go_sem]) rfl ⟨by unfold wv; rw [EL.out, EH.out], ?_⟩
    exact ((Below.refl _ _).alloc (by simp) _).alloc (by simp) _
  · have EH : Hid (hi v = 0) := by unfold Hid hi; omega
    have b1 : decide (v < 0) = false := by simpa using hv
    clear hv h1 h2
    go_enter Tryz.func61, Tryz.ntmps61
    go_wp2_with fail
    refine bodyPost_ret (v := .agg #[.int .i64 0, .int .u64 (IntKind.u64.wrap v)]) (by simp [results, Tryz.results61, go_sem]) rfl ⟨by unfold wv; rw [EL.out, EH.out], ?_⟩
    exact ((Below.refl _ _).alloc (by simp) _).alloc (by simp) _
end Go.Proofs.YtoenijflijfogaaGreat
