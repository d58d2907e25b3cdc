/- Runs that are a tree; parts of a slice of runs. -/
import Derived.Test.YteagbcijpfpjhaaPK1
import Derived.Test.YteagbcijpfpjhaaPKS
namespace Go.Proofs.Yteagbcijpfpjhaa
open Go.RowKit

def one (r : Rn) : Prop := 1 ≤ r.f ∧ 0 ≤ r.l ∧ r.l ≤ 3 ∧ 1 ≤ r.c
def apart (a b : Rn) : Prop := a.f ≠ b.f ∧ ¬ (0 < b.l ∧ a.l = b.l)
/-- Runs are a tree. -/
def okR (L : List Rn) : Prop := L.length ≤ 64 ∧ (∀ r ∈ L, one r) ∧ L.Pairwise apart
def decR (L : List Rn) : Decidable (okR L) := by unfold okR one apart; infer_instance
def okB (L : List Rn) : Bool := @decide (okR L) (decR L)
theorem okB_true {L : List Rn} (h : okR L) : okB L = true := @decide_eq_true _ (decR L) h
theorem okB_false {L : List Rn} (h : ¬ okR L) : okB L = false := @decide_eq_false _ (decR L) h
theorem okB_iff {L : List Rn} : okB L = true ↔ okR L := @decide_eq_true_iff _ (decR L)
theorem okR_iff (L : List Rn) : okR L ↔ L.length ≤ 64 ∧ ∀ k (hk : k < L.length), one L[k] ∧ ∀ i (hi : i < k), apart L[i] L[k] := by
  unfold okR
  constructor
  · rintro ⟨h1, h2, h3⟩
    refine ⟨h1, fun k hk => ⟨h2 _ (List.getElem_mem hk), fun i hi => ?_⟩⟩
    exact List.pairwise_iff_getElem.1 h3 i k (by omega) hk hi
  · rintro ⟨h1, h2⟩
    refine ⟨h1, fun r hr => ?_, List.pairwise_iff_getElem.2 fun i j hi hj hij => (h2 j hj).2 i hij⟩
    obtain ⟨k, hk, rfl⟩ := List.getElem_of_mem hr
    exact (h2 k hk).1
theorem okR_not {L : List Rn} {k : Nat} (hk : k < L.length) (h : ¬ (one L[k] ∧ ∀ i (hi : i < k), apart L[i] L[k])) : okB L = false := okB_false (fun h' => h (((okR_iff L).1 h').2 k hk))
theorem elemN : Try.prog.elem 22 = 48 := by kernel_rfl
theorem undN : Try.prog.underlying 22 = some (.slice (Try.prog.elem 22)) := by rw [elemN]; exact Try.underlying22
theorem sizeN (w : World) : (sizeOf 48).run Try.prog w = .ok 4 w := by
  simp [sizeOf]
  rfl
theorem NReads.sliced {w : World} {a : Option Addr} {cap : Nat} {L : List Rn} (h : NReads w (.slice a L.length cap) L) {c d : Nat} (hc : c ≤ d) (hd : d ≤ L.length) : NReads w (sliced a c d cap 4) ((L.take d).drop c) := by
  obtain ⟨a', cap', hv, h1, h2, hk, h3⟩ := h
  simp at hv
  obtain ⟨rfl, rfl⟩ := hv
  unfold Go.sliced
  have hl : ((L.take d).drop c).length = d - c := by simp; omega
  refine ⟨_, cap - c, by rw [hl], by omega, by omega, fun r hr => hk r (List.mem_of_mem_take (List.mem_of_mem_drop hr)), ?_⟩
  rcases Nat.eq_zero_or_pos (d - c) with h0 | h0
  · exact .inl (List.eq_nil_of_length_eq_zero (by omega))
  · rcases h3 with rfl | ⟨b, off, rfl, h5, h6⟩
    · simp at hd; omega
    · have hne : cap ≠ c := by omega
      refine .inr ⟨b, off + c * 4, ?_, h5, fun j hj i hi => ?_⟩
      · rw [if_neg hne]; simp [Addr.add]
      · have := h6 (c + j) (by omega) i hi
        rw [show off + c * 4 + j * 4 + i = off + (c + j) * 4 + i by omega, this]
        congr 2
        simp
/-- L[:d] -/
theorem nsl_upto {w : World} {a : Option Addr} {cap : Nat} {L : List Rn} (h : NReads w (.slice a L.length cap) L) {d : Nat} (hd : d ≤ L.length) :
    ∃ a' cap', (∀ w', (Instr.slice 22 (.slice a L.length cap) none (some (.int .i64 (d : Int))) none).run Try.prog w' = .ok (.slice a' d cap') w') ∧ NReads w (.slice a' d cap') (L.take d) := by
  obtain ⟨_, _, hv, hcap, _⟩ := h.form
  simp at hv
  obtain ⟨_, rfl⟩ := hv
  refine ⟨(if cap = 0 then a else a.map (·.add (0 * 4))), cap - 0, fun w' => ?_, ?_⟩
  rotate_left
  · exact h.sliced (Nat.zero_le d) hd
  · rw [run_slice_h _ _ _ _ _ undN _ _ (by omega) (by omega), elemN, sizeN]
    rfl
/-- What a box has after a struct was stored into it. -/
theorem stW_new {w W : World} {b0 : Array Value} {T : TypeId} {vs : List Value} (h : StW (w.alloc (.cells b0 T)) W w.heap.size 0 b0 T vs) (hb : b0.size = vs.length) : Below w.heap.size w W ∧ W.heap[w.heap.size]? = some (.cells vs.toArray T) ∧ w.heap.size < W.heap.size := by
  have hbl : Below w.heap.size w W := ((Below.refl _ _).alloc (Nat.le_refl _) _).trans (h.b _ (Nat.le_refl _))
  obtain ⟨cur, h1, h2, _, h4⟩ := h.c
  have e : cur = vs.toArray := by
    apply Array.ext (by simp; omega)
    intro i hi hj
    have := h4 i (by simpa using hj)
    rw [Nat.zero_add, Array.getElem?_eq_getElem hi] at this
    simpa using this
  rw [e] at h1
  exact ⟨hbl, h1, (Array.getElem?_eq_some_iff.1 h1).1⟩
/-- The four cells of a run in a box of its own. -/
theorem box4 {W : World} {B : Nat} {r : Rn} {T : TypeId} (h : W.heap[B]? = some (.cells (r4 r).toArray T)) : W.cell? ⟨B, 0, none⟩ = some (.int .i64 r.f) ∧ W.cell? ⟨B, 1, none⟩ = some (.int .i64 r.l) ∧ W.cell? ⟨B, 2, none⟩ = some (.int .i64 r.c) ∧ W.cell? ⟨B, 3, none⟩ = some (.bool r.s) :=
  ⟨(cell_row h 0 (by simp [r4])).1, (cell_row h 1 (by simp [r4])).1, (cell_row h 2 (by simp [r4])).1, (cell_row h 3 (by simp [r4])).1⟩
set_option maxRecDepth 100000 in
theorem isLevel_any (x : Int) (w : World) : Calls Try.prog 28 #[.int .i64 x] w fun e w' => e = .returned (.bool (decide (0 ≤ x ∧ x ≤ 3))) ∧ w' = w := by
  obtain ⟨d, hd⟩ : ∃ d, decide (0 ≤ x ∧ x ≤ 3) = d := ⟨_, rfl⟩
  rw [hd]
  by_cases h1 : 0 ≤ x
  · go_enter Try.func28, Try.ntmps28
    go_wp2_with fail
    go_ret
    refine ⟨congrArg _ (show Value.bool (decide (x < 4)) = Value.bool d from congrArg _ ?_), rfl⟩
    rw [← hd, decide_eq_decide]
    omega
  · go_enter Try.func28, Try.ntmps28
    go_wp2_with fail
    go_ret
    refine ⟨congrArg _ (show Value.bool false = Value.bool d from congrArg _ ?_), rfl⟩
    rw [← hd]
    exact (decide_eq_false (by omega)).symm
end Go.Proofs.Yteagbcijpfpjhaa
