/- Parts of bytes that a slice reads, as one value each. -/
import Derived.Test.YtijablmejjepaaaRT
namespace Go.Proofs.Ytijablmejjepaaa
open Go.RowKit

theorem size8 (w : World) : (sizeOf 5).run Try.prog w = .ok 1 w := by
  simp [sizeOf]
  rfl
theorem elem8 : Try.prog.elem 31 = 5 := by kernel_rfl
theorem und8 : Try.prog.underlying 31 = some (.slice (Try.prog.elem 31)) := by rw [elem8]; exact Try.underlying31
theorem Reads.sliced {w : World} {a : Option Addr} {cap : Nat} {l : List UInt8} (h : Reads w (.slice a l.length cap) l) {c d : Nat} (hc : c ≤ d) (hd : d ≤ l.length) : Reads w (sliced a c d cap 1) ((l.take d).drop c) := by
  unfold Go.sliced
  rcases Nat.eq_zero_or_pos (d - c) with h0 | h0
  · have e : (l.take d).drop c = [] := List.drop_eq_nil_of_le (by simp; omega)
    rw [e, h0]
    refine .inl ⟨rfl, _, _, rfl, fun hn => ?_⟩
    split at hn
    · subst hn; omega
    · rcases h with ⟨_, a', cap', hv, hz⟩ | ⟨b, off, cap', hv, _⟩
      · simp at hv
        obtain ⟨rfl, _, rfl⟩ := hv
        cases a with
        | none => rw [hz rfl]; omega
        | some x => simp at hn
      · simp at hv
        obtain ⟨rfl, _⟩ := hv
        simp at hn
  · rcases h with ⟨rfl, _⟩ | ⟨b, off, cap', hv, h2, h3, h4, h5, h6⟩
    · simp at hd; omega
    · simp at hv
      obtain ⟨rfl, rfl⟩ := hv
      rw [if_neg (by omega)]
      have hl : ((l.take d).drop c).length = d - c := by simp; omega
      have ea : Option.map (fun x : Addr => x.add (c * 1)) (some (⟨b, off, none⟩ : Addr)) = some ⟨b, off + c, none⟩ := by simp [Addr.add]
      rw [ea]
      refine .inr ⟨b, off + c, cap - c, by rw [hl], by omega, by omega, by omega, h5, fun j hj => ?_⟩
      rw [Nat.add_assoc, h6 (c + j) (by omega)]
      simp
/-- l[c:] -/
theorem sl_from {w : World} {a : Option Addr} {cap : Nat} {l : List UInt8} (h : Reads w (.slice a l.length cap) l) {c : Nat} (hc : c ≤ l.length) :
    ∃ a' cap', (∀ w', (Instr.slice 31 (.slice a l.length cap) (some (.int .i64 (c : Int))) none none).run Try.prog w' = .ok (.slice a' (l.length - c) cap') w') ∧ Reads w (.slice a' (l.length - c) cap') (l.drop c) := by
  refine ⟨(if cap = c then a else a.map (·.add (c * 1))), cap - c, fun w' => ?_, ?_⟩
  rotate_left
  · have := h.sliced hc (Nat.le_refl _)
    rw [List.take_length] at this
    exact this
  · rw [run_slice_l _ _ _ _ _ und8 _ _ (by omega) (by omega), elem8, size8]
    rfl
/-- l[:d] -/
theorem sl_upto {w : World} {a : Option Addr} {cap : Nat} {l : List UInt8} (h : Reads w (.slice a l.length cap) l) {d : Nat} (hd : d ≤ l.length) :
    ∃ a' cap', (∀ w', (Instr.slice 31 (.slice a l.length cap) none (some (.int .i64 (d : Int))) none).run Try.prog w' = .ok (.slice a' d cap') w') ∧ Reads w (.slice a' d cap') (l.take d) := by
  have hcap : d ≤ cap := by
    rcases Nat.eq_zero_or_pos l.length with h0 | h0
    · omega
    · have := h.cap h0; omega
  refine ⟨(if cap = 0 then a else a.map (·.add (0 * 1))), cap - 0, fun w' => ?_, ?_⟩
  rotate_left
  · exact h.sliced (Nat.zero_le d) hd
  · rw [run_slice_h _ _ _ _ _ und8 _ _ (by omega) (by omega), elem8, size8]
    rfl
/-- l[c:d] -/
theorem sl_part {w : World} {a : Option Addr} {cap : Nat} {l : List UInt8} (h : Reads w (.slice a l.length cap) l) {c d : Nat} (hc : c ≤ d) (hd : d ≤ l.length) :
    ∃ a' cap', (∀ w', (Instr.slice 31 (.slice a l.length cap) (some (.int .i64 (c : Int))) (some (.int .i64 (d : Int))) none).run Try.prog w' = .ok (.slice a' (d - c) cap') w') ∧ Reads w (.slice a' (d - c) cap') ((l.take d).drop c) := by
  have hcap : d ≤ cap := by
    rcases Nat.eq_zero_or_pos l.length with h0 | h0
    · omega
    · have := h.cap h0; omega
  refine ⟨(if cap = c then a else a.map (·.add (c * 1))), cap - c, fun w' => ?_, ?_⟩
  rotate_left
  · exact h.sliced hc hd
  · rw [run_slice_lh _ _ _ _ _ und8 _ _ _ _ (by omega) (by omega) (by omega), elem8, size8]
    rfl
end Go.Proofs.Ytijablmejjepaaa
