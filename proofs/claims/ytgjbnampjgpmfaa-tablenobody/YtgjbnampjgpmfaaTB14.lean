/- AK IX, joined. -/
import Derived.Test.YtgjbnampjgpmfaaTB2
/- An append that leaves what is no byte as it is. -/
namespace Go.Proofs.Ytgjbnampjgpmfaa
open Go.RowKit

/-- All cells but bytes stand. -/
def Kn (A B : World) : Prop := ∀ (c : Nat) (cs : Array Value) (T : TypeId) (fr : Nat × Nat), T ≠ 5 → A.heap[c]? = some (.cells cs T fr) → B.heap[c]? = some (.cells cs T fr)
theorem Kn.refl (A : World) : Kn A A := fun _ _ _ _ _ h => h
theorem Kn.of_below {A B : World} (h : Below A.heap.size A B) : Kn A B := fun c _ _ _ _ hc => (h.block c (Array.getElem?_eq_some_iff.1 hc).1).trans hc
theorem Kn.trans {A B C : World} (h : Kn A B) (k : Kn B C) : Kn A C := fun c cs T fr h1 hc => k c cs T fr h1 (h c cs T fr h1 hc)
theorem kn_grown {w w' : World} {base : Nat} {v : Value} {L : List UInt8} (hown : Own w base v L) (hg : w.grownBy w' v.ownBlock) : Kn w w' := by
  intro c cs T fr hT hc
  rw [hg.block c (Array.getElem?_eq_some_iff.1 hc).1 ?_]
  · exact hc
  · intro e
    rcases hown.2 with ⟨rfl, _⟩ | ⟨g, cap, cur, rfl, _, hgb, _⟩
    · simp [Value.ownBlock] at e
    · obtain rfl : c = g := by simpa [Value.ownBlock] using e
      rw [hc] at hgb
      simp at hgb
      exact hT hgb.2.1
theorem cell_rw {w : World} {b : Nat} {cs : Array Value} {T : TypeId} (h : w.heap[b]? = some (.cells cs T)) (i : Nat) (hi : i < cs.size) : w.cell? ⟨b, i, none⟩ = some cs[i] := by
  simp [World.cell?, h, hi]
theorem wpList_appK {w : World} {ops : Array Oper} {rest : List Oper} {o : Oper} {a : Act} {Q : Exit → Act → World → Prop} (hgd : o.guard = none) (s x : Operand)
    (ho : o.op = .call { callee := .builtin .append, args := #[s, x], argTypes := #[22, 22] })
    (base : Nat) (v vx : Value) (L l M : List UInt8) (hM : M = L ++ l) (hs : a.eval s = v) (hx : a.eval x = vx) (hown : Own w base v L) (hr : Reads w vx l)
    (hlen : L.length + l.length ≤ 140737488355328) (hbase : base ≤ w.heap.size)
    (h : ∀ v' w', Own w' base v' M → Hid (Below base w w') → Hid (Kn w w') → wpList Try.prog ops Q rest (a.put o.dst v') w') : wpList Try.prog ops Q (o :: rest) a w := by
  subst hM
  obtain ⟨i0, hi, hz0, hz1, hz2⟩ := info_parts info5
  rcases hr with ⟨rfl, ad, cap, rfl, hn⟩ | ⟨b, off, cap, rfl, h2, h3, h4, h5, h6⟩
  · cases ad with
    | none =>
      obtain rfl := hn rfl
      refine wpList_append_own_none hgd s x 22 ho base 5 i0 1 Try.underlying22 hi v L.length (L.map bc) hs hown hx ?_
      exact h v w (by rw [List.append_nil]; exact hown) (Below.refl _ _) (Kn.refl _)
    | some ad =>
      refine wpList_append_own w hgd s x 22 ho base 5 i0 (.int .u8 0) 1 1 Try.underlying22 hi hz0 hz1 hz2 rfl (by decide) v L.length (L.map bc) hs hown ad 0 cap [] hx (by simp) (by intro j u hj; simp at hj) (by intro u hu; simp at hu) (by simp [maxLen] at *; omega) (by simp at *; omega) hbase ?_
      intro v' w' hown' hgrow _
      refine h v' w' ?_ ((Below.refl _ _).grown hgrow hbase (own_block hown)) (kn_grown hown hgrow)
      unfold Own; simpa using hown'
  · refine wpList_append_own w hgd s x 22 ho base 5 i0 (.int .u8 0) 1 1 Try.underlying22 hi hz0 hz1 hz2 rfl (by decide) v L.length (L.map bc) hs hown ⟨b, off, none⟩ l.length cap (l.map bc) hx (by simp) (newsR h6) one_bc (by simp [maxLen] at *; omega) (by simp at *; omega) hbase ?_
    intro v' w' hown' hgrow _
    refine h v' w' ?_ ((Below.refl _ _).grown hgrow hbase (own_block hown)) (kn_grown hown hgrow)
    unfold Own; rw [List.length_append, List.map_append]; exact hown'
end Go.Proofs.Ytgjbnampjgpmfaa

/- Places of an array of three numbers. -/
namespace Go.Proofs.Ytgjbnampjgpmfaa
open Go.RowKit
theorem size3 (w : World) : (sizeOf 3).run Try.prog w = .ok 1 w := by
  simp [sizeOf]
  rfl
theorem idx3_0 (a b c : Int) (w : World) : (Instr.index 95 (.agg #[.int .i64 a, .int .i64 b, .int .i64 c]) (.int .i64 0)).run Try.prog w = .ok (.int .i64 a) w := by
  simp [Instr.index, run_underlying Try.underlying95, part, sizeOf, asIntOf, Result.andThen]
theorem idx3_1 (a b c : Int) (w : World) : (Instr.index 95 (.agg #[.int .i64 a, .int .i64 b, .int .i64 c]) (.int .i64 1)).run Try.prog w = .ok (.int .i64 b) w := by
  have hs : Try.t3.size = 1 := rfl
  simp [Instr.index, run_underlying Try.underlying95, part, sizeOf, asIntOf, Result.andThen, hs]
theorem idx3_2 (a b c : Int) (w : World) : (Instr.index 95 (.agg #[.int .i64 a, .int .i64 b, .int .i64 c]) (.int .i64 2)).run Try.prog w = .ok (.int .i64 c) w := by
  have hs : Try.t3.size = 1 := rfl
  simp [Instr.index, run_underlying Try.underlying95, part, sizeOf, asIntOf, Result.andThen, hs]
end Go.Proofs.Ytgjbnampjgpmfaa
