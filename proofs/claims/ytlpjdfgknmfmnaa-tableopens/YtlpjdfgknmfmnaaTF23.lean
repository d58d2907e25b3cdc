/- FZ, joined. -/
import Derived.Test.YtlpjdfgknmfmnaaTF8
/- A range over a function that keeps memory of its own over the rounds: a law of our own. -/
namespace Go.Proofs.Ytlpjdfgknmfmnaa
open Go.RowKit

variable {F : Fence} {n : Nat} {P : Program}
/-- What lies between a place and the end stands. -/
def Kb (m : Nat) (A B : World) : Prop := ∀ c, m ≤ c → c < A.heap.size → B.heap[c]? = A.heap[c]?
/-- What the function that is ranged over must do, if rounds may say no more, and leave alone what came since. -/
def SeqZ {α : Type} (F : Fence) (n : Nat) (P : Program) (g : Nat) (lb : Array Value) (encs : α → Array Value) (n₀ : Nat) (Pre : List α → α → World → Prop) (S Sp : List α → Prop) (w : World) : Prop :=
  ∀ (l : Nat) (J Jx : List α → World → Prop) (W : World), Kc n₀ w W → n₀ ≤ W.heap.size → (∀ pre A B, J pre A → Below A.heap.size A B → J pre B) → (∀ pre A B, Jx pre A → Below A.heap.size A B → Jx pre B) →
    (∀ pre x W0 W1, J pre W0 → Below W0.heap.size W0 W1 → Pre pre x W1 → n₀ ≤ W0.heap.size → YieldAt F (n - 1) P l (encs x) W1 fun e W' => (e = .returned (.bool true) ∧ J (pre ++ [x]) W' ∧ Below n₀ W1 W' ∧ Kb W0.heap.size W1 W') ∨ (e = .returned (.bool false) ∧ Jx (pre ++ [x]) W')) →
    J [] W → CallsIn F n P g (#[.func (.yield l) #[] #[]] ++ lb) W fun e W' => (∃ v, e = .returned v) ∧ ((∃ xs, S xs ∧ J xs W') ∨ ∃ xs, Sp xs ∧ Jx xs W')
/-- How a round ends. -/
def postZ {α : Type} (n₀ m : Nat) (I : List α → World → Prop) (Ix : Code → List α → World → Prop) (xs : List α) (W : World) : Exit → Act → World → Prop
  | .normal, _, W' => KeepsOthers W W' ∧ Below n₀ W W' ∧ Kb m W W' ∧ I xs W'
  | .ret, _, W' => KeepsOthers W W' ∧ Ix .ret xs W'
  | .exit id, _, W' => KeepsOthers W W' ∧ Ix (.exit id) xs W'
  | _, _, _ => False
theorem wpIn_range_z {α : Type} {g : Operand} {ps : Array Tmp} {assign body : Code} {Q : Exit → Act → World → Prop} {a : Act} {w : World}
    (hro : F.round = none) (h1 : 1 ≤ n) {gf : Nat} {lb : Array Value} (hg : a.eval g = .func (.func gf) #[] lb) (hFg : F.fn gf) (eg : ∀ args w, (callFunc gf args).run P w = .ok (.enter gf args) w)
    {encs : α → Array Value} (hps : ∀ x, (encs x).size = ps.size) (I : List α → World → Prop) (Ix : Code → List α → World → Prop) (Pre : List α → α → World → Prop) (S Sp : List α → Prop)
    (n₀ : Nat) (hn₀ : n₀ ≤ w.heap.size) (hseq : SeqZ F (n - 1) P gf lb encs n₀ Pre S Sp w)
    (hI : ∀ pre A B, I pre A → Kc n₀ A B → I pre B) (hIx : ∀ c pre A B, Ix c pre A → Kc n₀ A B → Ix c pre B) (hP : ∀ pre x A B, Pre pre x A → Kc n₀ A B → Pre pre x B) (h0 : I [] w) (a₁ : α → Nat → Act) (wA : α → World → World) (hA : ∀ x W, Below W.heap.size W (wA x W))
    (hassign : ∀ (l : Nat) (pre : List α) (x : α) (W : World) (K : Act → World → Prop), Pre pre x W → K (a₁ x W.heap.size) (wA x W) →
      assign.wpIn (F.inRound l) (n - 1 - 1) P (Exit.then K (fun _ _ _ => False)) { tmps := (ps.zip (encs x)).foldl (fun t (p, v) => t.setIfInBounds p v) a.tmps, defers := [] } W)
    (hbody : ∀ (l : Nat) (pre : List α) (x : α) (W0 W₁ W : World), I pre W0 → Kc n₀ W0 W → Pre pre x W → n₀ ≤ W0.heap.size → W0.heap.size ≤ W₁.heap.size → W₁.heap.size ≤ W.heap.size → Kc n₀ (wA x W₁) W → body.wpIn (F.inRound l) (n - 1 - 1) P (postZ n₀ W0.heap.size I Ix (pre ++ [x]) W) (a₁ x W₁.heap.size) W)
    (hdone : ∀ (D : Nat) (xs : List α) (W : World), w.heap.size ≤ D → S xs → I xs W → W.heap[D]? = some (.deferred (some [])) → Q .normal { a with defers := { target := .collected D, args := #[] } :: a.defers } W)
    (hleft : ∀ (D : Nat) (xs : List α) (c : Code) (W : World), w.heap.size ≤ D → Sp xs → Ix c xs W → W.heap[D]? = some (.deferred (some [])) → c.wpIn F n P Q { a with defers := { target := .collected D, args := #[] } :: a.defers } W) :
    (Code.rangeFunc g ps assign body).wpIn F n P Q a w := by
  refine wpIn_rangeFunc ?_
  intro fn hfn
  rw [hro]
  have hen := run_enterLoop_outer (P := P) (w := w) fn a.tmps ps assign body
  generalize hd : w.heap.size = d at *
  generalize hr0 : ({ state := .ready, pending := none, fn := fn, tmps := a.tmps, params := ps, assign := assign, body := body, defers := d } : Loop) = r0 at *
  have e1 : r0.fn = fn := by rw [← hr0]
  have e2 : r0.params = ps := by rw [← hr0]
  have e3 : r0.state = .ready := by rw [← hr0]
  have e4 : r0.tmps = a.tmps := by rw [← hr0]
  have e5 : r0.assign = assign := by rw [← hr0]
  have e6 : r0.body = body := by rw [← hr0]
  have e7 : r0.pending = none := by rw [← hr0]
  generalize hW : (w.alloc (.deferred (some []))).alloc (.loop r0) = W0 at *
  have hB : Below d w W0 := by
    rw [← hW]
    exact ((Below.refl d w).alloc (by omega) _).alloc (by simp; omega) _
  have hz : W0.heap.size = d + 2 := by rw [← hW]; simp; omega
  have hD0 : W0.heap[d]? = some (.deferred (some [])) := by
    rw [← hW, Below.heap_alloc _ _ _ (by simp; omega), ← hd]; exact World.alloc_heap_new w _
  have hL0 : W0.heap[d + 1]? = some (.loop r0) := by
    have := World.alloc_heap_new (w.alloc (.deferred (some []))) (.loop r0)
    rw [World.size_alloc, hd, hW] at this
    exact this
  refine ⟨d + 1, _, W0, { target := .fn (.func gf) lb, args := #[.func (.yield (d + 1)) #[] #[]] }, W0, gf, #[.func (.yield (d + 1)) #[] #[]] ++ lb, W0, hen, ?_, ?_, ?_, fun _ => h1, ?_⟩
  · simp only [resolve, hg]; simp [go_sem]
  · intro f' hf'; simp [Target.leads] at hf'; subst hf'; exact hFg
  · simp [invoke, go_sem, eg]
  · have hKw : Kc n₀ w W0 := ⟨hB.mono hn₀, fun k _ _ _ hk => (hB.block k (by have := (Array.getElem?_eq_some_iff.1 hk).1; omega)).trans hk⟩
    have hI0 : I [] W0 := hI [] w W0 h0 hKw
    refine (hseq (d + 1) (fun pre W => I pre W ∧ W.heap[d + 1]? = some (.loop r0) ∧ W.heap[d]? = some (.deferred (some [])) ∧ d ≤ W.heap.size)
      (fun pre W => ∃ c, Ix c pre W ∧ W.heap[d + 1]? = some (.loop { r0 with state := .done, pending := some c }) ∧ W.heap[d]? = some (.deferred (some [])) ∧ d ≤ W.heap.size) W0 hKw (by omega) ?_ ?_ ?_ ⟨hI0, hL0, hD0, by omega⟩).mono ?_
    · rintro pre A B ⟨q1, q2, q3, q4⟩ hb
      have hs := hb.size
      exact ⟨hI pre A B q1 (Kc.of_below hb (by omega)), (hb.block _ (Array.getElem?_eq_some_iff.1 q2).1).trans q2, (hb.block _ (Array.getElem?_eq_some_iff.1 q3).1).trans q3, by omega⟩
    · rintro pre A B ⟨c, q1, q2, q3, q4⟩ hb
      have hs := hb.size
      exact ⟨c, hIx c pre A B q1 (Kc.of_below hb (by omega)), (hb.block _ (Array.getElem?_eq_some_iff.1 q2).1).trans q2, (hb.block _ (Array.getElem?_eq_some_iff.1 q3).1).trans q3, by omega⟩
    · rintro pre x W0 W ⟨q1₀, q2₀, q3₀, q4₀⟩ hbw hpx hdw
      have hs0 := hbw.size
      have hl0 := (Array.getElem?_eq_some_iff.1 q2₀).1
      have k00 : Kc n₀ W0 W := Kc.of_below hbw hdw
      have q1 := hI pre W0 W q1₀ k00
      have q2 := (hbw.block _ hl0).trans q2₀
      have q3 := (hbw.block _ (Array.getElem?_eq_some_iff.1 q3₀).1).trans q3₀
      have q4 : d ≤ W.heap.size := by omega
      have hl := (Array.getElem?_eq_some_iff.1 q2).1
      have hy := run_yield (P := P) (args := encs x) q2 (by rw [e2]; exact hps x)
      rw [e1, e2, e4, e5, e6] at hy
      have hAx := hA x W
      have hAs := hAx.size
      have q2' : (wA x W).heap[d + 1]? = some (.loop r0) := (hAx.block _ hl).trans q2
      have q3' : (wA x W).heap[d]? = some (.deferred (some [])) := (hAx.block _ (Array.getElem?_eq_some_iff.1 q3).1).trans q3
      have hl' := (Array.getElem?_eq_some_iff.1 q2').1
      refine ⟨fn, _, assign, body, hy, roundIn_of_wpIn hfn (hassign _ pre x W _ hpx ⟨_, run_beginRound q2' e3, ?_⟩)⟩
      have k0 : Kc n₀ W (wA x W) := Kc.of_below hAx (by omega)
      have k1' := Kc.put (n := n₀) (.loop { r0 with state := .busy }) q2' rfl (by omega)
      have k1 : Kc n₀ W ((wA x W).putObj (d + 1) (.loop { r0 with state := .busy })) := ⟨k0.b.trans k1'.b, fun k _ _ _ hk => k1'.c _ _ _ _ (k0.c _ _ _ _ hk)⟩
      have l1 : ((wA x W).putObj (d + 1) (.loop { r0 with state := .busy })).heap[d + 1]? = some (.loop { r0 with state := .busy }) := World.putObj_heap_same hl'
      have d1 : ((wA x W).putObj (d + 1) (.loop { r0 with state := .busy })).heap[d]? = some (.deferred (some [])) := (World.putObj_heap_other (by omega)).trans q3'
      refine wpIn_mono (hbody _ pre x W0 W _ q1₀ ⟨k00.b.trans k1.b, fun k _ _ _ hk => k1.c _ _ _ _ (k00.c _ _ _ _ hk)⟩ (hP _ _ _ _ hpx k1) hdw hs0 (by simp; omega) k1') ?_
      have left : ∀ (c : Code) (W3 : World), KeepsOthers ((wA x W).putObj (d + 1) (.loop { r0 with state := .busy })) W3 → Ix c (pre ++ [x]) W3 →
          ∃ w', (Instr.endRound (d + 1) (some c)).run P W3 = .ok (.bool false) w' ∧ ∃ c, Ix c (pre ++ [x]) w' ∧ w'.heap[d + 1]? = some (.loop { r0 with state := .done, pending := some c }) ∧ w'.heap[d]? = some (.deferred (some [])) ∧ d ≤ w'.heap.size := by
        intro c W3 m1 m3
        have l3 := m1.same _ _ l1 rfl
        have d3 := m1.same _ _ d1 rfl
        have hend := run_endRound (P := P) (some c) l3
        have hl3 := (Array.getElem?_eq_some_iff.1 l3).1
        have k3 := Kc.put (n := n₀) (.loop { r0 with state := .done, pending := some c }) l3 rfl (by omega)
        exact ⟨_, hend, c, hIx _ _ _ _ m3 k3, World.putObj_heap_same hl3, (World.putObj_heap_other (by omega)).trans d3, by have := m1.size; simp at this ⊢; omega⟩
      intro e a3 W3 hp
      cases e with
      | normal =>
        obtain ⟨m1, m2, mb, m3⟩ := hp
        have l3 := m1.same _ _ l1 rfl
        have d3 := m1.same _ _ d1 rfl
        have hend := run_endRound (P := P) none l3
        have hl3 := (Array.getElem?_eq_some_iff.1 l3).1
        have e9 : ({ ({ r0 with state := .busy } : Loop) with state := if (none : Option Code).isNone then .ready else .done, pending := none } : Loop) = r0 := by
          rw [← hr0]; rfl
        rw [e9] at hend
        have k3 := Kc.put (n := n₀) (.loop r0) l3 rfl (by omega)
        exact ⟨_, _, hend, .inl ⟨rfl, ⟨hI _ _ _ m3 k3, World.putObj_heap_same hl3, (World.putObj_heap_other (by omega)).trans d3, by have := m1.size; simp at this ⊢; omega⟩, (k1.b.trans m2).trans k3.b, fun c hc1 hc2 => by
          rw [World.putObj_heap_other (by omega), mb c hc1 (by simp; omega), World.putObj_heap_other (by omega), hAx.block c hc2]⟩⟩
      | ret =>
        obtain ⟨w', g1, g2⟩ := left _ _ hp.1 hp.2
        exact ⟨_, w', g1, .inr ⟨rfl, g2⟩⟩
      | exit id =>
        obtain ⟨w', g1, g2⟩ := left _ _ hp.1 hp.2
        exact ⟨_, w', g1, .inr ⟨rfl, g2⟩⟩
      | goto t => exact hp.elim
      | panic ch => exact hp.elim
      | outgrown => exact hp.elim
    · rintro e W2 ⟨⟨v, rfl⟩, ⟨xs, hS, q1, q2, q3, q4⟩ | ⟨xs, hS, c, q1, q2, q3, q4⟩⟩
      · have hend := run_endLoop (P := P) q2 (by rw [e3]; simp)
        rw [e7] at hend
        refine ⟨none, _, hend, ?_⟩
        exact hdone d xs _ (by omega) hS (hI _ _ _ q1 (Kc.put _ q2 rfl (by omega))) ((World.putObj_heap_other (by omega)).trans q3)
      · have hend := run_endLoop (P := P) q2 (by simp)
        refine ⟨some c, _, hend, ?_⟩
        exact hleft d xs c _ (by omega) hS (hIx _ _ _ _ q1 (Kc.put _ q2 rfl (by omega))) ((World.putObj_heap_other (by omega)).trans q3)
end Go.Proofs.Ytlpjdfgknmfmnaa
