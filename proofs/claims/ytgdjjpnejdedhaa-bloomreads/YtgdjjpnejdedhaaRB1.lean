/- A filter's digits, one by one. -/
import Derived.Test.YtgdjjpnejdedhaaB10
namespace Go.Proofs.Ytgdjjpnejdedhaa
open Go.RowKit

/-- A filter's digits. -/
def dgs (D : List UInt8) : List Bool := (List.range (8 * D.length)).map (gb D)
theorem dgs_len (D : List UInt8) : (dgs D).length = 8 * D.length := by simp [dgs]
theorem dgs_at (D : List UInt8) (q : Nat) (h : q < (dgs D).length) : (dgs D)[q] = gb D q := by simp [dgs]
theorem dgs_sb (D : List UInt8) (p : Nat) (hp : p < 8 * D.length) : (dgs D).set p true = dgs (sb D p) := by
  apply List.ext_getElem
  · simp [dgs_len, sb_len]
  · intro q h1 h2
    rw [List.getElem_set, dgs_at _ _ h2, gb_sb _ _ _ (by omega)]
    by_cases e : p = q
    · subst e; simp
    · simp [e, dgs_at]
theorem dgs_zero (d : Nat) : dgs (List.replicate d 0) = List.replicate (8 * d) false := by
  apply List.ext_getElem
  · simp [dgs_len]
  · intro q h1 h2
    rw [dgs_at, gb_zero]; simp
def bcb (b : Bool) : Value := .bool b
/-- The reference's filter in memory, made since base: lo ≤ its blocks. -/
def RF (w : World) (base : Nat) (v : Value) (h : Nat) (bs : List Bool) : Prop :=
  ∃ B g cap, v = .pointer (some ⟨B, 0, none⟩) ∧ base ≤ B ∧ w.heap[B]? = some (.cells #[.slice (some ⟨g, 0, none⟩) bs.length cap, .int .i64 (h : Int)] 53) ∧ w.ownsRow base 4 1 (.slice (some ⟨g, 0, none⟩) bs.length cap) bs.length (bs.map bcb) ∧ B ≠ g ∧ 1 ≤ h ∧ h ≤ 8 ∧ 8 ≤ bs.length ∧ bs.length ≤ 65536
theorem RF.kc {n : Nat} {A B : World} {base : Nat} {v : Value} {h : Nat} {D : List Bool} (hf : RF A base v h D) (hk : Kc n A B) : RF B base v h D := by
  obtain ⟨b, g, cap, h1, h2, h3, h4, h5⟩ := hf
  refine ⟨b, g, cap, h1, h2, hk.c _ _ _ _ h3, ?_, h5⟩
  obtain ⟨q1, q2⟩ := h4
  refine ⟨q1, ?_⟩
  rcases q2 with q2 | ⟨g, cap, cur, hv, hg, hw, r⟩
  · exact .inl q2
  · exact .inr ⟨g, cap, cur, hv, hg, hk.c _ _ _ _ hw, r⟩
theorem RF.below {A B : World} {base : Nat} {v : Value} {h : Nat} {D : List Bool} (hf : RF A base v h D) (hb : Below A.heap.size A B) : RF B base v h D :=
  hf.kc (Kc.of_below hb (Nat.le_refl _))
theorem RF.ptr {w : World} {base : Nat} {v : Value} {h : Nat} {D : List Bool} (hf : RF w base v h D) : ∃ B, v = .pointer (some ⟨B, 0, none⟩) := by obtain ⟨B, _, _, rfl, _⟩ := hf; exact ⟨B, rfl⟩
theorem RF.facts {w : World} {base : Nat} {v : Value} {h : Nat} {D : List Bool} (hf : RF w base v h D) : 1 ≤ h ∧ h ≤ 8 ∧ 8 ≤ D.length ∧ D.length ≤ 65536 := by obtain ⟨B, _, _, _, _, _, _, _, h1, h2, h3, h4⟩ := hf; exact ⟨h1, h2, h3, h4⟩
theorem row_bool_at {w : World} {base g cap : Nat} {bs : List Bool} (h : w.ownsRow base 4 1 (.slice (some ⟨g, 0, none⟩) bs.length cap) bs.length (bs.map bcb)) (j : Nat) (hj : j < bs.length) : w.cell? ⟨g, j, none⟩ = some (.bool bs[j]) ∧ w.frozen? ⟨g, j, none⟩ = false := by
  refine ⟨?_, World.ownsRow.frozenAt h j⟩
  rw [World.ownsRow.cellAt h j (by simpa using hj)]
  simp [hj, bcb]
/-- The reference's place, and the code's. -/
theorem ref_step (key : List UInt8) : (if mor 0 (key ++ [1]) % 2 = 0 then mor 0 (key ++ [1]) + 1 else mor 0 (key ++ [1])) = ste key := by
  unfold ste
  rw [← mor_append]
  generalize mor 0 (key ++ [1]) = m
  split
  · rename_i h
    obtain ⟨k, rfl⟩ : ∃ k, m = 2 * k := ⟨m / 2, by omega⟩
    have := Nat.two_pow_add_eq_or_of_lt (i := 1) (b := 1) (by decide) k
    simpa using this
  · rename_i h
    obtain ⟨k, rfl⟩ : ∃ k, m = 2 * k + 1 := ⟨m / 2, by omega⟩
    have := Nat.two_pow_add_eq_or_of_lt (i := 1) (b := 1) (by decide) k
    simp at this
    rw [this, Nat.or_assoc, Nat.or_self]
theorem ref_place (key : List UInt8) (i : Nat) : ((mor 0 key : Int) + ((i : Int) * (ste key : Int)) % 4294967296) % 4294967296 = (pla key i : Int) := by
  unfold pla
  have e : ((i * ste key : Nat) : Int) = (i : Int) * (ste key : Int) := Int.natCast_mul _ _
  rw [← e]
  generalize i * ste key = m
  omega
end Go.Proofs.Ytgdjjpnejdedhaa
