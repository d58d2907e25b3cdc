/- The walk of WideOrdered. -/
import Derived.Test.YtldbglkapopbiaaW9
import Derived.Test.YtldbglkapopbiaaW11
import Derived.Test.YtldbglkapopbiaaBW
import Derived.OpenShut
import Derived.Deep.Cut
import Derived.Deep.DeepCutAuto
namespace Go.Proofs.Ytldbglkapopbiaa
open Go.RowKit

/-- A box of a number. -/
def WBox (x : Int) (b : Nat) (w : World) : Prop := b < w.heap.size ∧ w.cell? ⟨b, 0, none⟩ = some (.int .i64 (hi x)) ∧ w.cell? ⟨b, 1, none⟩ = some (.int .u64 (lo x))
theorem WBox.below {x : Int} {b : Nat} {w1 w2 : World} (h : WBox x b w1) (hb : Below w1.heap.size w1 w2) : WBox x b w2 := by
  obtain ⟨h0, h1, h2⟩ := h
  have := hb.size
  exact ⟨by omega, (hb.cell (p := ⟨b, 0, none⟩) h0).trans h1, (hb.cell (p := ⟨b, 1, none⟩) h0).trans h2⟩
/-- A row of sixteen bytes that the call has made. -/
def Row16 (w : World) (base g cap : Nat) (l : List UInt8) : Prop := base ≤ g ∧ g < w.heap.size ∧ l.length = 16 ∧ 16 ≤ cap ∧ cap ≤ maxLen ∧ (∀ j (h : j < l.length), w.cell? ⟨g, j, none⟩ = some (bc l[j])) ∧ ∀ j, w.frozen? ⟨g, j, none⟩ = false
theorem row16_of {w : World} {base : Nat} {v : Value} {l : List UInt8} (hl : l.length = 16) (h : w.ownsRow base 5 1 v 16 (l.map bc)) : ∃ g cap, v = .slice (some ⟨g, 0, none⟩) 16 cap ∧ Row16 w base g cap l := by
  obtain ⟨h1, h2⟩ := h
  rcases h2 with ⟨rfl, h0⟩ | ⟨g, cap, cur, rfl, hg, hw, hn, hm, hs, ht⟩
  · omega
  · have hown : w.ownsRow base 5 1 (.slice (some ⟨g, 0, none⟩) 16 cap) 16 (l.map bc) := ⟨h1, .inr ⟨g, cap, cur, rfl, hg, hw, hn, hm, hs, ht⟩⟩
    refine ⟨g, cap, rfl, hg, (hown.lt g rfl).2, hl, hn, hm, fun j hj => ?_, fun j => by simp [World.frozen?, hw]⟩
    have := hown.cells (g := g) rfl j (bc l[j]) (by simp [hj])
    have ea : (⟨g, 0, none⟩ : Addr).add j = ⟨g, j, none⟩ := by simp [Addr.add]; omega
    rw [ea] at this
    exact this
theorem Row16.below {w w' : World} {base g cap : Nat} {l : List UInt8} (h : Row16 w base g cap l) (hb : Below w.heap.size w w') : Row16 w' base g cap l := by
  obtain ⟨h1, h2, h3, h4, h5, h6, h7⟩ := h
  have := hb.size
  exact ⟨h1, by omega, h3, h4, h5, fun j hj => (hb.cell (p := ⟨g, j, none⟩) h2).trans (h6 j hj), fun j => (hb.frozen (p := ⟨g, j, none⟩) h2).trans (h7 j)⟩
theorem Row16.reads {w : World} {base g cap : Nat} {l : List UInt8} (h : Row16 w base g cap l) : Reads w (.slice (some ⟨g, 0, none⟩) 16 cap) l := by
  obtain ⟨h1, h2, h3, h4, h5, h6, h7⟩ := h
  exact .inr ⟨g, 0, cap, by rw [h3], by omega, by omega, h5, h2, fun j hj => by rw [Nat.zero_add]; exact h6 j hj⟩
/-- The first byte is written. -/
theorem Row16.set {w : World} {base g cap : Nat} {x y : UInt8} {l : List UInt8} (h : Row16 w base g cap (x :: l)) : Row16 (w.setCell ⟨g, 0, none⟩ (bc y)) base g cap (y :: l) := by
  obtain ⟨h1, h2, h3, h4, h5, h6, h7⟩ := h
  refine ⟨h1, by simp [World.setCell]; omega, h3, h4, h5, fun j hj => ?_, fun j => by rw [World.frozen?_setCell]; exact h7 j⟩
  have hj' : j < (x :: l).length := hj
  have c := h6 j hj'
  cases j with
  | zero => exact World.cell?_setCell_same _ _ _ (h6 0 (by simp))
  | succ j =>
    rw [World.cell?_setCell_other (h := by intro e; injection e with _ e2; omega)]
    exact c
theorem Row16.far {w : World} {base g g' cap : Nat} {u : Value} {l : List UInt8} (h : Row16 w base g cap l) (hne : g' ≠ g) : Row16 (w.setCell ⟨g', 0, none⟩ u) base g cap l := by
  obtain ⟨h1, h2, h3, h4, h5, h6, h7⟩ := h
  refine ⟨h1, by simp [World.setCell]; omega, h3, h4, h5, fun j hj => ?_, fun j => by rw [World.frozen?_setCell]; exact h7 j⟩
  rw [World.cell?_setCell_other (h := by intro e; injection e with e1 _; exact hne e1)]
  exact h6 j hj
/-- A number's sixteen bytes. -/
def b16 (x : Int) : List UInt8 := b8 (hi x % 18446744073709551616).toNat ++ b8 (lo x).toNat
theorem b16_len (x : Int) : (b16 x).length = 16 := by unfold b16 b8; simp
theorem write16 (x : Int) (w : World) : Calls Try.prog 22 #[.agg #[.int .i64 (hi x), .int .u64 (lo x)]] w fun e w' => ∃ g cap, e = .returned (.slice (some ⟨g, 0, none⟩) 16 cap) ∧ Row16 w' w.heap.size g cap (b16 x) ∧ Below w.heap.size w w' := by
  have hh := hi_bd x
  have hl := lo_bd x
  refine (wideWrite_any x w).mono ?_
  rintro e w' ⟨v, rfl, hown, hb⟩
  have e1 : hi x % 18446744073709551616 = ((hi x % 18446744073709551616).toNat : Int) := by omega
  have e2 : lo x = ((lo x).toNat : Int) := by omega
  have hc := cells16 (hi x % 18446744073709551616).toNat (lo x).toNat
  rw [← e1, ← e2] at hc
  rw [hc] at hown
  obtain ⟨g, cap, rfl, hr⟩ := row16_of (b16_len x) hown
  exact ⟨g, cap, rfl, hr, hb⟩

theorem near_fact (x v : Int) (h1 : -170141183460469231731687303715884105728 ≤ x) (h2 : x < 170141183460469231731687303715884105728) (n1 : -4611686018427387904 < hi x) (n2 : hi x < 4611686018427387904) (hv : ¬ v ≤ 0) (v2 : v ≤ 9223372036854775807) :
    -170141183460469231731687303715884105728 ≤ x + v ∧ x + v < 170141183460469231731687303715884105728 ∧ sgn (x + v) x = 1 := by
  have hb := halves_back x h1 h2
  have hl := lo_bd x
  refine ⟨by omega, by omega, ?_⟩
  unfold sgn; rw [if_neg (by omega), if_neg (by omega)]
end Go.Proofs.Ytldbglkapopbiaa
