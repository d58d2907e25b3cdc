/- Bytes that a slice reads, whoever made it (for the seats of wide). -/
import Derived.Test.YtldbglkapopbiaaW11
import Derived.Laws.AppendOwn
import Derived.Laws.IdiomStrings
import Derived.Laws.BytesString
import Derived.Laws.Strings
namespace Go.Proofs.Ytldbglkapopbiaa
open Go.RowKit

/-- A byte's cell. -/
def bc (x : UInt8) : Value := .int .u8 (x.toNat : Int)
/-- A slice value reads these bytes. -/
def Reads (w : World) (v : Value) (l : List UInt8) : Prop :=
  (l = [] ∧ ∃ a cap, v = .slice a 0 cap) ∨
  ∃ b off cap, v = .slice (some ⟨b, off, none⟩) l.length cap ∧ 0 < l.length ∧ l.length ≤ cap ∧ cap ≤ maxLen ∧ b < w.heap.size ∧ ∀ j (h : j < l.length), w.cell? ⟨b, off + j, none⟩ = some (bc l[j])
theorem Reads.below {w w' : World} {v : Value} {l : List UInt8} (h : Reads w v l) (hb : Below w.heap.size w w') : Reads w' v l := by
  rcases h with h | ⟨b, off, cap, h1, h2, h3, h4, h5, h6⟩
  · exact .inl h
  · have := hb.size
    exact .inr ⟨b, off, cap, h1, h2, h3, h4, by omega, fun j hj => (hb.cell (p := ⟨b, off + j, none⟩) h5).trans (h6 j hj)⟩
theorem Reads.drew {w : World} {v : Value} {l : List UInt8} (h : Reads w v l) : Reads w.drew v l := h
theorem Reads.alloc {w : World} {v : Value} {l : List UInt8} (h : Reads w v l) (o : Obj) : Reads (w.alloc o) v l := h.below ((Below.refl _ _).alloc (Nat.le_refl _) _)
/-- What it is, as a slice. -/
theorem Reads.form {w : World} {v : Value} {l : List UInt8} (h : Reads w v l) : ∃ a cap, v = .slice a l.length cap ∧ l.length ≤ maxLen := by
  rcases h with ⟨rfl, a, cap, h⟩ | ⟨b, off, cap, h1, h2, h3, h4, h5, h6⟩
  · exact ⟨a, cap, h, by simp⟩
  · exact ⟨_, cap, h1, by omega⟩
theorem reads_own {w : World} {base : Nat} {e : TypeId} {v : Value} {n : Nat} {l : List UInt8} (h : w.ownsRow base e 1 v n (l.map bc)) : Reads w v l := by
  obtain ⟨h1, h2⟩ := h
  simp at h1
  rcases h2 with ⟨rfl, h0⟩ | ⟨g, cap, cur, rfl, hg, hw, hn, hm, hs, ht⟩
  · left
    refine ⟨List.length_eq_zero_iff.1 (by omega), none, 0, rfl⟩
  · rcases Nat.eq_zero_or_pos n with h0 | h0
    · left; exact ⟨List.length_eq_zero_iff.1 (by omega), _, cap, by rw [h0]⟩
    · right
      have hown : w.ownsRow base e 1 (.slice (some ⟨g, 0, none⟩) n cap) n (l.map bc) := ⟨by simp; exact h1, .inr ⟨g, cap, cur, rfl, hg, hw, hn, hm, hs, ht⟩⟩
      refine ⟨g, 0, cap, by rw [h1], by omega, by omega, hm, (hown.lt g rfl).2, fun j hj => ?_⟩
      have := hown.cells (g := g) rfl j (bc l[j]) (by simp [hj])
      have ea : (⟨g, 0, none⟩ : Addr).add j = ⟨g, 0 + j, none⟩ := by simp [Addr.add]; omega
      rw [ea] at this
      exact this
/-- Its text. -/
theorem reads_text {w : World} {v : Value} {l : List UInt8} (h : Reads w v l) : (convert 36 9 v).run Try.prog w = .ok (.string ⟨l.toArray⟩) w := by
  rcases h with ⟨rfl, a, cap, rfl⟩ | ⟨b, off, cap, rfl, h2, h3, h4, h5, h6⟩
  · rw [run_convert_bytes_string w 36 9 5 a 0 cap Try.underlying36 Try.underlying5 Try.underlying9]
    cases a <;> simp [Conv.bytesToString, loadCells]
    all_goals rfl
  · exact run_convert_bytes_back (P := Try.prog) w 36 9 5 ⟨b, off, none⟩ cap l Try.underlying36 Try.underlying5 Try.underlying9 (by
      intro j hj
      have ea : (⟨b, off, none⟩ : Addr).add j = ⟨b, off + j, none⟩ := by simp [Addr.add]
      rw [ea]
      exact h6 j hj)
theorem reads_take {w : World} {b off cap : Nat} {l : List UInt8} (c : Nat) (hc : c ≤ l.length) (hcap : l.length ≤ cap) (hm : cap ≤ maxLen) (hb : b < w.heap.size) (h : ∀ j (h : j < l.length), w.cell? ⟨b, off + j, none⟩ = some (bc l[j])) : Reads w (.slice (some ⟨b, off, none⟩) c cap) (l.take c) := by
  rcases Nat.eq_zero_or_pos c with h0 | h0
  · subst h0; exact .inl ⟨rfl, _, _, rfl⟩
  · have hl : (l.take c).length = c := by simp; omega
    refine .inr ⟨b, off, cap, by rw [hl], by omega, by omega, hm, hb, fun j hj => ?_⟩
    rw [h j (by omega)]
    simp
end Go.Proofs.Ytldbglkapopbiaa
