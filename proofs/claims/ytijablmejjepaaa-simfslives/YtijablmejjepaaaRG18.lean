/- The document's file system: Crash. -/
import Derived.Test.YtijablmejjepaaaRG17
namespace Go.Proofs.Ytijablmejjepaaa
open Go.RowKit Go.Maps Go.Sort

theorem bsl_upto (a : Option Addr) (n cap N : Nat) (h : N ≤ cap) (w : World) : (Instr.slice 31 (.slice a n cap) none (some (.int .i64 (N : Int))) none).run Try.prog w = .ok (.slice a N cap) w := by
  have ha : (Option.map (fun x : Addr => x.add 0) a) = a := by cases a <;> simp [add_zero']
  simp [Instr.slice, run_underlying Try.underlying31, Instr.sliceBounds, Instr.sliceBound, asIntOf, h, Result.andThen, ha]
theorem reads_upto {w : World} {a : Option Addr} {n cap N : Nat} {l : List UInt8} (h : Reads w (.slice a n cap) l) (hN : N ≤ n) (hn : n = l.length) : Reads w (.slice a N cap) (l.take N) := by
  rcases h with ⟨rfl, ad, c, hv, hz⟩ | ⟨b, off, c, hv, h2, h3, h4, h5, h6⟩
  · simp only [Value.slice.injEq] at hv
    obtain ⟨rfl, rfl, rfl⟩ := hv
    have : N = 0 := by omega
    subst this
    exact .inl ⟨rfl, _, _, rfl, hz⟩
  · simp only [Value.slice.injEq] at hv
    obtain ⟨rfl, rfl, rfl⟩ := hv
    by_cases h0 : N = 0
    · subst h0
      exact .inl ⟨List.take_zero, _, _, rfl, fun q => by cases q⟩
    · have hl : (l.take N).length = N := by rw [List.length_take]; omega
      refine .inr ⟨b, off, cap, by rw [hl], by omega, by omega, h4, h5, fun j hj => ?_⟩
      rw [hl] at hj
      rw [List.getElem_take]
      exact h6 j (by omega)
end Go.Proofs.Ytijablmejjepaaa
