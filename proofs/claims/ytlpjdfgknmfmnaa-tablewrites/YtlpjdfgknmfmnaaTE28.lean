/- FG TN1 TN2 TN3, joined. -/
import Derived.Test.YtlpjdfgknmfmnaaTE6
import Derived.Test.YtlpjdfgknmfmnaaTE8
import Derived.Test.YtlpjdfgknmfmnaaTE11
import Derived.Test.YtlpjdfgknmfmnaaTE12
import Derived.RangeFuncRecord
/- A range over a function that reads boxes of its own: the rounds must leave them (G). -/
namespace Go.Proofs.Ytlpjdfgknmfmnaa
open Go.RowKit

variable {F : Fence} {n : Nat} {P : Program}
/-- What the function that is ranged over must do: it hands over what meets Pre, one behind the other, and in the end S. -/
def SeqG {α : Type} (F : Fence) (n : Nat) (P : Program) (g : Nat) (lb : Array Value) (encs : α → Array Value) (n₀ : Nat) (Pre : List α → α → World → Prop) (G : World → Prop) (S : List α → Prop) (w : World) : Prop :=
  ∀ (l : Nat) (J : List α → World → Prop) (W : World), Kc n₀ w W → n₀ ≤ W.heap.size → (∀ pre A B, J pre A → Below A.heap.size A B → J pre B) → (∀ pre A, J pre A → G A) →
    (∀ pre x W1, J pre W1 → Pre pre x W1 → n₀ ≤ W1.heap.size → YieldAt F (n - 1) P l (encs x) W1 fun e W' => e = .returned (.bool true) ∧ J (pre ++ [x]) W' ∧ Below n₀ W1 W') →
    J [] W → CallsIn F n P g (#[.func (.yield l) #[] #[]] ++ lb) W fun e W' => (∃ v, e = .returned v) ∧ ∃ xs, S xs ∧ J xs W'
theorem wpIn_range_g {α : Type} {g : Operand} {ps : Array Tmp} {assign body : Code} {Q : Exit → Act → World → Prop} {a : Act} {w : World}
    (hro : F.round = none) (h1 : 1 ≤ n) {gf : Nat} {lb : Array Value} (hg : a.eval g = .func (.func gf) #[] lb) (hFg : F.fn gf) (eg : ∀ args w, (callFunc gf args).run P w = .ok (.enter gf args) w)
    {encs : α → Array Value} (hps : ∀ x, (encs x).size = ps.size) (I : List α → World → Prop) (Pre : List α → α → World → Prop) (G : World → Prop) (S : List α → Prop)
    (n₀ : Nat) (hn₀ : n₀ ≤ w.heap.size) (hseq : SeqG F (n - 1) P gf lb encs n₀ Pre G S w)
    (hG : ∀ pre A, I pre A → G A) (hI : ∀ pre A B, I pre A → Kc n₀ A B → I pre B) (hP : ∀ pre x A B, Pre pre x A → Kc n₀ A B → Pre pre x B) (h0 : I [] w) (a₁ : α → Act)
    (hassign : ∀ (l : Nat) (x : α) (W : World) (K : Act → World → Prop), K (a₁ x) W →
      assign.wpIn (F.inRound l) (n - 1 - 1) P (Exit.then K (fun _ _ _ => False)) { tmps := (ps.zip (encs x)).foldl (fun t (p, v) => t.setIfInBounds p v) a.tmps, defers := [] } W)
    (hbody : ∀ (l : Nat) (pre : List α) (x : α) (W : World), I pre W → Pre pre x W → n₀ ≤ W.heap.size → body.wpIn (F.inRound l) (n - 1 - 1) P (postP n₀ I (pre ++ [x]) W) (a₁ x) W)
    (hdone : ∀ (D : Nat) (xs : List α) (W : World), w.heap.size ≤ D → S xs → I xs W → W.heap[D]? = some (.deferred (some [])) → Q .normal { a with defers := { target := .collected D, args := #[] } :: a.defers } W) :
    (Code.rangeFunc g ps assign body).wpIn F n P Q a w := by
  refine wpIn_rangeFunc ?_
  intro fn hfn
  rw [hro]
  have hen := run_enterLoop_outer (P := P) (w := w) fn a.tmps ps assign body
  generalize hd : w.heap.size = d at *
  generalize hr0 : ({ state := .ready, pending := none, fn := fn, tmps := a.tmps, params := ps, assign := assign, body := body, defers := d } : Loop) = r0 at *
  have e1 : r0.fn = fn := by rw [← hr0]
  have e2 : r0.params = ps := by rw [← hr0]
  have e3 : r0.state = .ready := by rw [← hr0]
  have e4 : r0.tmps = a.tmps := by rw [← hr0]
  have e5 : r0.assign = assign := by rw [← hr0]
  have e6 : r0.body = body := by rw [← hr0]
  have e7 : r0.pending = none := by rw [← hr0]
  generalize hW : (w.alloc (.deferred (some []))).alloc (.loop r0) = W0 at *
  have hB : Below d w W0 := by
    rw [← hW]
    exact ((Below.refl d w).alloc (by omega) _).alloc (by simp; omega) _
  have hz : W0.heap.size = d + 2 := by rw [← hW]; simp; omega
  have hD0 : W0.heap[d]? = some (.deferred (some [])) := by
    rw [← hW, Below.heap_alloc _ _ _ (by simp; omega), ← hd]; exact World.alloc_heap_new w _
  have hL0 : W0.heap[d + 1]? = some (.loop r0) := by
    have := World.alloc_heap_new (w.alloc (.deferred (some []))) (.loop r0)
    rw [World.size_alloc, hd, hW] at this
    exact this
  refine ⟨d + 1, _, W0, { target := .fn (.func gf) lb, args := #[.func (.yield (d + 1)) #[] #[]] }, W0, gf, #[.func (.yield (d + 1)) #[] #[]] ++ lb, W0, hen, ?_, ?_, ?_, fun _ => h1, ?_⟩
  · simp only [resolve, hg]; simp [go_sem]
  · intro f' hf'; simp [Target.leads] at hf'; subst hf'; exact hFg
  · simp [invoke, go_sem, eg]
  · have hKw : Kc n₀ w W0 := ⟨hB.mono hn₀, fun k _ _ _ hk => (hB.block k (by have := (Array.getElem?_eq_some_iff.1 hk).1; omega)).trans hk⟩
    have hI0 : I [] W0 := hI [] w W0 h0 hKw
    refine (hseq (d + 1) (fun pre W => I pre W ∧ W.heap[d + 1]? = some (.loop r0) ∧ W.heap[d]? = some (.deferred (some [])) ∧ d ≤ W.heap.size) W0 hKw (by omega) ?_ (fun pre A h => hG pre A h.1) ?_ ⟨hI0, hL0, hD0, by omega⟩).mono ?_
    · rintro pre A B ⟨q1, q2, q3, q4⟩ hb
      have hs := hb.size
      exact ⟨hI pre A B q1 (Kc.of_below hb (by omega)), (hb.block _ (Array.getElem?_eq_some_iff.1 q2).1).trans q2, (hb.block _ (Array.getElem?_eq_some_iff.1 q3).1).trans q3, by omega⟩
    · rintro pre x W ⟨q1, q2, q3, q4⟩ hpx hdw
      have hl := (Array.getElem?_eq_some_iff.1 q2).1
      have hy := run_yield (P := P) (args := encs x) q2 (by rw [e2]; exact hps x)
      rw [e1, e2, e4, e5, e6] at hy
      refine ⟨fn, _, assign, body, hy, roundIn_of_wpIn hfn (hassign _ x W _ ⟨_, run_beginRound q2 e3, ?_⟩)⟩
      have k1 := Kc.put (n := n₀) (.loop { r0 with state := .busy }) q2 rfl (by omega)
      have l1 : (W.putObj (d + 1) (.loop { r0 with state := .busy })).heap[d + 1]? = some (.loop { r0 with state := .busy }) := World.putObj_heap_same hl
      have d1 : (W.putObj (d + 1) (.loop { r0 with state := .busy })).heap[d]? = some (.deferred (some [])) := (World.putObj_heap_other (by omega)).trans q3
      refine wpIn_mono (hbody _ pre x _ (hI _ _ _ q1 k1) (hP _ _ _ _ hpx k1) (by simp; omega)) ?_
      intro e a3 W3 hp
      cases e with
      | normal =>
        obtain ⟨m1, m2, m3⟩ := hp
        have l3 := m1.same _ _ l1 rfl
        have d3 := m1.same _ _ d1 rfl
        have hend := run_endRound (P := P) none l3
        have hl3 := (Array.getElem?_eq_some_iff.1 l3).1
        have e9 : ({ ({ r0 with state := .busy } : Loop) with state := if (none : Option Code).isNone then .ready else .done, pending := none } : Loop) = r0 := by
          rw [← hr0]; rfl
        rw [e9] at hend
        have k3 := Kc.put (n := n₀) (.loop r0) l3 rfl (by omega)
        exact ⟨_, _, hend, rfl, ⟨hI _ _ _ m3 k3, World.putObj_heap_same hl3, (World.putObj_heap_other (by omega)).trans d3, by have := m1.size; simp at this ⊢; omega⟩, (k1.b.trans m2).trans k3.b⟩
      | ret => exact hp.elim
      | exit id => exact hp.elim
      | goto t => exact hp.elim
      | panic ch => exact hp.elim
      | outgrown => exact hp.elim
    · rintro e W2 ⟨⟨v, rfl⟩, xs, hS, q1, q2, q3, q4⟩
      have hend := run_endLoop (P := P) q2 (by rw [e3]; simp)
      rw [e7] at hend
      refine ⟨none, _, hend, ?_⟩
      exact hdone d xs _ (by omega) hS (hI _ _ _ q1 (Kc.put _ q2 rfl (by omega))) ((World.putObj_heap_other (by omega)).trans q3)
end Go.Proofs.Ytlpjdfgknmfmnaa

/- A table that is nil, or that no call made. -/
namespace Go.Proofs.Ytlpjdfgknmfmnaa
open Go.RowKit

theorem tlen_nil (w : World) : Calls Try.prog 13 #[.pointer none] w fun e w' => e = .returned (.int .i64 0) ∧ w' = w := by
  go_enter Try.func13, Try.ntmps13
  go_wp2_with fail
  go_ret
  exact ⟨rfl, rfl⟩
theorem tmay_nil (kv : Value) (w : World) : Calls Try.prog 14 #[.pointer none, kv] w fun e w' => e = .returned (.bool false) ∧ w' = w := by
  go_enter Try.func14, Try.ntmps14
  go_wp2_with fail
  go_ret
  exact ⟨rfl, rfl⟩
/-- A table without pieces, filter and count. -/
def ZT (w : World) (B : Nat) : Prop := w.heap[B]? = some (.cells #[.slice none 0 0, .pointer none, .int .i64 0] 84)
theorem tlen_zero (B : Nat) (w : World) (h : ZT w B) : Calls Try.prog 13 #[.pointer (some ⟨B, 0, none⟩)] w fun e w' => e = .returned (.int .i64 0) ∧ w' = w := by
  have z2 : w.cell? ⟨B, 2, none⟩ = some (.int .i64 0) := by unfold ZT at h; simp [World.cell?, h]
  go_enter Try.func13, Try.ntmps13
  go_wp2_with fail
  go_ret
  exact ⟨rfl, rfl⟩
theorem tmay_zero (B : Nat) (kv : Value) (w : World) (h : ZT w B) : Calls Try.prog 14 #[.pointer (some ⟨B, 0, none⟩), kv] w fun e w' => e = .returned (.bool false) ∧ w' = w := by
  have z1 : w.cell? ⟨B, 1, none⟩ = some (.pointer none) := by unfold ZT at h; simp [World.cell?, h]
  go_enter Try.func14, Try.ntmps14
  go_wp2_with fail
  go_ret
  exact ⟨rfl, rfl⟩
theorem tseek_nil (a : Option Addr) (n c : Nat) (m : Int) (w : World) : Calls Try.prog 44 #[.pointer none, .slice a n c, .int .i64 m] w fun e w' => e = .returned (.slice none 0 0) ∧ Below w.heap.size w w' := by
  go_enter Try.func44, Try.ntmps44
  go_wp2_with fail
  go_ret
  exact ⟨rfl, ((Below.refl _ _).alloc (Nat.le_refl _) _).alloc (by simp) _⟩
theorem tall_nil (w : World) : Calls Try.prog 43 #[.pointer none] w fun e w' => e = .returned (.slice none 0 0) ∧ Below w.heap.size w w' := by
  go_enter Try.func43, Try.ntmps43
  go_wp2_with fail
  refine (tlen_nil _).mono ?_
  rintro e w1 ⟨rfl, rfl⟩
  go_wp2_with fail
  refine (tseek_nil _ _ _ _ _).mono ?_
  rintro e w2 ⟨rfl, hb2⟩
  have HB2 : Hid _ := hb2
  clear hb2
  go_wp2_with fail
  go_ret
  exact ⟨rfl, HB2.out⟩
theorem tends_nil (w : World) : Calls Try.prog 45 #[.pointer none] w fun e w' => e = .returned (.tuple #[.slice none 0 0, .slice none 0 0, .bool false]) ∧ Below w.heap.size w w' := by
  go_enter Try.func45, Try.ntmps45
  go_wp2_with fail
  refine (tlen_nil _).mono ?_
  rintro e w1 ⟨rfl, rfl⟩
  go_wp2_with fail
  go_ret3
  exact ⟨rfl, Below.refl _ _⟩
theorem tends_zero (B : Nat) (w : World) (h : ZT w B) : Calls Try.prog 45 #[.pointer (some ⟨B, 0, none⟩)] w fun e w' => e = .returned (.tuple #[.slice none 0 0, .slice none 0 0, .bool false]) ∧ Below w.heap.size w w' := by
  have H : Hid (ZT w B) := h
  clear h
  go_enter Try.func45, Try.ntmps45
  go_wp2_with fail
  refine (tlen_zero B _ H.out).mono ?_
  rintro e w1 ⟨rfl, rfl⟩
  go_wp2_with fail
  go_ret3
  exact ⟨rfl, Below.refl _ _⟩
theorem tget_nil (a : Option Addr) (n c : Nat) (w : World) : Calls Try.prog 41 #[.pointer none, .slice a n c] w fun e w' => e = .returned (.tuple #[agV aZ, .bool false]) ∧ Below w.heap.size w w' := by
  rw [agVZ]
  go_enter Try.func41, Try.ntmps41
  go_wp2_with fail
  refine (tmay_nil _ _).mono ?_
  rintro e w1 ⟨rfl, rfl⟩
  go_wp2_with fail
  exact bodyPost_ret (res_rt rfl _ _ w.heap.size _ rfl (run_loadVar_row _ w.heap.size _ _ _ (0, 0) _ (World.alloc_heap_new _ _) Try.underlying41 rfl (by kernel_rfl))) rfl ⟨rfl, (Below.refl _ _).alloc (Nat.le_refl _) _⟩
theorem tget_zero (B : Nat) (a : Option Addr) (n c : Nat) (w : World) (h : ZT w B) : Calls Try.prog 41 #[.pointer (some ⟨B, 0, none⟩), .slice a n c] w fun e w' => e = .returned (.tuple #[agV aZ, .bool false]) ∧ Below w.heap.size w w' := by
  rw [agVZ]
  have hB := (Array.getElem?_eq_some_iff.1 h).1
  have H1 : Hid (ZT (w.alloc (.cells #[.int .u64 0, .bool false, .int .i64 0, .int .u64 0, .int .i64 0, .int .i64 0] 41)) B) := by
    unfold Hid ZT
    rw [((Below.refl w.heap.size w).alloc (Nat.le_refl _) _).block B hB]; exact h
  clear h
  go_enter Try.func41, Try.ntmps41
  go_wp2_with fail
  refine (tmay_zero B _ _ H1.out).mono ?_
  rintro e w1 ⟨rfl, rfl⟩
  go_wp2_with fail
  exact bodyPost_ret (res_rt rfl _ _ w.heap.size _ rfl (run_loadVar_row _ w.heap.size _ _ _ (0, 0) _ (World.alloc_heap_new _ _) Try.underlying41 rfl (by kernel_rfl))) rfl ⟨rfl, (Below.refl _ _).alloc (Nat.le_refl _) _⟩
theorem search_zero (f : Value) (w : World) : Calls Try.prog 78 #[.int .i64 0, f] w fun e w' => e = .returned (.int .i64 0) ∧ w' = w := by
  go_enter Try.func78, Try.ntmps78
  go_wp2_with fail
  go_loopw [5, 6] (fun i j wr => wr = w ∧ i = .int .i64 0 ∧ j = .int .i64 0) (fun _ _ _ => 0)
  case atStart => exact ⟨rfl, rfl, rfl⟩
  case round =>
    obtain ⟨rfl, rfl, rfl⟩ := hrel
    go_wp2_with fail
    go_ret
    exact ⟨rfl, rfl⟩
theorem first_nil (a : Option Addr) (n c : Nat) (m : Int) (w : World) : Calls Try.prog 33 #[.slice none 0 0, .slice a n c, .int .i64 m] w fun e w' => e = .returned (.slice none 0 0) ∧ Below w.heap.size w w' := by
  go_enter Try.func33, Try.ntmps33
  go_wp2_with fail
  go_loopw [7, 18] (fun o i wr => wr = w ∧ o = .slice none 0 0 ∧ i = .int .i64 0) (fun _ _ _ => 0)
  case atStart => exact ⟨rfl, rfl, rfl⟩
  case round =>
    obtain ⟨rfl, rfl, rfl⟩ := hrel
    go_wp2_with fail
    go_ret
    exact ⟨rfl, Below.refl _ _⟩
set_option maxRecDepth 100000 in
set_option maxHeartbeats 1000000 in
theorem tseek_zero (B : Nat) (a : Option Addr) (n c : Nat) (m : Int) (w : World) (h : ZT w B) : Calls Try.prog 44 #[.pointer (some ⟨B, 0, none⟩), .slice a n c, .int .i64 m] w fun e w' => e = .returned (.slice none 0 0) ∧ Below w.heap.size w w' := by
  have hB := (Array.getElem?_eq_some_iff.1 h).1
  obtain ⟨w1, HW1⟩ := hid_ex ((w.alloc (.cells #[.pointer (some ⟨B, 0, none⟩)] 30)).alloc (.cells #[.slice a n c] 25))
  have HB1 : Hid (Below w.heap.size w w1) := by rw [HW1.out]; exact ((Below.refl _ _).alloc (Nat.le_refl _) _).alloc (by simp) _
  have z0 : w1.cell? ⟨B, 0, none⟩ = some (.slice none 0 0) := by
    have hz : w1.heap[B]? = some (.cells #[.slice none 0 0, .pointer none, .int .i64 0] 84) := (HB1.out.block B hB).trans h
    simp [World.cell?, hz]
  clear h
  go_enter Try.func44, Try.ntmps44
  by_cases g1 : m < 1
  · go_wp2_with fail
    rw [← HW1.out]
    go_ret
    exact ⟨rfl, HB1.out⟩
  · rw [HW1.out] at z0
    go_wp2_with fail
    refine (search_zero _ _).mono ?_
    rintro e w2 ⟨rfl, rfl⟩
    go_wp2_with fail
    go_region_with (first | (go_at_call 33; refine (first_nil _ _ _ _ _).mono ?_; rintro e w2 ⟨rfl, HB2⟩))
    all_goals (go_wp2_with fail; rw [← HW1.out] at HB2; go_ret; exact ⟨rfl, HB1.out.drew.trans (HB2.mono HB1.out.drew.size)⟩)
set_option maxRecDepth 100000 in
theorem tall_zero (B : Nat) (w : World) (h : ZT w B) : Calls Try.prog 43 #[.pointer (some ⟨B, 0, none⟩)] w fun e w' => e = .returned (.slice none 0 0) ∧ Below w.heap.size w w' := by
  have H : Hid (ZT w B) := h
  clear h
  go_enter Try.func43, Try.ntmps43
  go_wp2_with (first | (go_at_call 13; refine (tlen_zero B _ H.out).mono ?_; rintro e w1 ⟨rfl, rfl⟩))
  refine (tseek_zero B _ _ _ _ _ H.out).mono ?_
  rintro e w1 ⟨rfl, HB1⟩
  go_wp2_with fail
  go_ret
  exact ⟨rfl, HB1⟩
end Go.Proofs.Ytlpjdfgknmfmnaa

/- What Write does with no entries: mayBe. -/
namespace Go.Proofs.Ytlpjdfgknmfmnaa
open Go.RowKit

set_option maxRecDepth 100000 in
theorem mayBe_nil (w : World) : Calls Try.prog 15 #[.slice none 0 0] w fun e w' => e = .returned (.int .i64 0) ∧ Below w.heap.size w w' := by
  go_enter Try.func15, Try.ntmps15
  go_wp2_with fail
  go_loopw [11] (fun i wr => wr = w ∧ i = .int .i64 0) (fun _ _ => 0)
  case atStart => exact ⟨rfl, rfl⟩
  case round =>
    obtain ⟨rfl, rfl⟩ := hrel
    go_wp2_with fail
    go_ret
    exact ⟨rfl, Below.refl _ _⟩
theorem framed_any (v : Value) (w : World) (V E : Value) (N : Nat) (h : Calls Try.prog 21 #[v] w fun e w' => e = .returned (.tuple #[V, E]) ∧ Below N w w') : Calls Try.prog 18 #[v] w fun e w' => e = .returned V ∧ Below N w w' := by
  go_enter Try.func18, Try.ntmps18
  go_wp2_with fail
  refine Calls.mono h ?_
  rintro e w1 ⟨rfl, HB⟩
  go_wp2_with fail
  go_ret
  exact ⟨rfl, HB⟩
end Go.Proofs.Ytlpjdfgknmfmnaa

/- framed, and remembered of none. -/
namespace Go.Proofs.Ytlpjdfgknmfmnaa
open Go.RowKit

theorem framed_reads (v : Value) (l : List UInt8) (hl : l.length ≤ 65535) (w : World) (hr : Reads w v l) : Calls Try.prog 18 #[v] w fun e w' => ∃ v', e = .returned v' ∧ Own w' w.heap.size v' (frm l) ∧ Below w.heap.size w w' := by
  go_enter Try.func18, Try.ntmps18
  go_wp2_with fail
  refine (frame_any v l hl _ hr).mono ?_
  rintro e w1 ⟨v', rfl, HO, HB⟩
  go_wp2_with fail
  go_ret
  exact ⟨_, rfl, HO, HB⟩
set_option maxRecDepth 100000 in
theorem remembered_nil (w : World) : Calls Try.prog 22 #[.slice none 0 0] w fun e w' => ∃ v', e = .returned v' ∧ Own w' w.heap.size v' [6, 0] ∧ Below w.heap.size w w' := by
  go_enter Try.func22, Try.ntmps22
  go_wp2_with fail
  refine (fit_any 0 _).mono ?_
  rintro e w0 ⟨rfl, hw⟩
  rw [hw]
  clear hw w0
  rw [show fitF 0 = (8, 6, 0) from rfl]
  go_wp2_with fail
  refine (new_ok 1 6 (by unfold newOk; omega) _).mono ?_
  rintro e w1 ⟨v1, rfl, hf1, hb1⟩
  have HF1 : Hid (Fil w1 w.heap.size v1 6 (List.replicate 1 0)) := hf1
  have HB1 : Hid (Below w.heap.size w w1) := hb1
  clear hf1 hb1
  go_wp2_with fail
  go_loopw [27] (fun i wr => wr = w1 ∧ i = .int .i64 0) (fun _ _ => 0)
  case atStart => exact ⟨rfl, rfl⟩
  case round =>
    obtain ⟨hw, rfl⟩ := hrel
    rw [hw]
    clear hw
    go_wp2_with fail
    refine (write_any_B v1 6 _ _ _ HF1.out).mono ?_
    rintro e w2 ⟨v2, rfl, ho2, hb2⟩
    have HO2 : Hid (Own w2 w.heap.size v2 [6, 0]) := ho2.mono HB1.out.size
    have HB2 : Hid (Below w.heap.size w w2) := HB1.out.trans (hb2.mono HB1.out.size)
    clear ho2 hb2
    go_wp2_with fail
    go_ret
    exact ⟨_, rfl, HO2.out, HB2.out⟩
end Go.Proofs.Ytlpjdfgknmfmnaa
