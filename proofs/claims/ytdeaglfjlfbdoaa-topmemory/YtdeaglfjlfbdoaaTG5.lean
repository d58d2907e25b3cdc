/- F1 S3 S4, joined. -/
import Derived.Test.YtdeaglfjlfbdoaaTG1
import Derived.Test.YtdeaglfjlfbdoaaTG4
import Derived.Test.YtdeaglfjlfbdoaaRows
import Derived.RangeFuncLeaves
import Derived.RangeFuncOwn
import Derived.RangeFuncSeq
import Derived.RangeFuncIn
import Derived.RangeFuncRecord
import Derived.Below
/- A range over a function that tells something of what it hands over: a law of our own. -/
namespace Go.Proofs.Ytdeaglfjlfbdoaa
open Go.RowKit

/-- B has what A has in cells, and all that lies below n. -/
structure Kc (n : Nat) (A B : World) : Prop where
  b : Below n A B
  c : ∀ (k : Nat) (cs : Array Value) (t : TypeId) (fr : Nat × Nat), A.heap[k]? = some (Obj.cells cs t fr) → B.heap[k]? = some (Obj.cells cs t fr)
theorem Kc.of_below {n : Nat} {A B : World} (h : Below A.heap.size A B) (hn : n ≤ A.heap.size) : Kc n A B :=
  ⟨h.mono hn, fun k _ _ _ hk => (h.block k (Array.getElem?_eq_some_iff.1 hk).1).trans hk⟩
theorem Kc.put {n : Nat} {A : World} {l : Nat} {o : Obj} (o' : Obj) (h : A.heap[l]? = some o) (ho : o.isCells = false) (hn : n ≤ l) : Kc n A (A.putObj l o') := by
  refine ⟨(Below.refl n A).grown (grownBy_putObj' A l o') (by have := (Array.getElem?_eq_some_iff.1 h).1; omega) (fun k e => by cases e; exact hn), fun k cs t fr hk => ?_⟩
  by_cases e : k = l
  · subst e
    rw [h] at hk
    simp at hk
    subst hk
    simp [Obj.isCells] at ho
  · rw [World.putObj_heap_other e]; exact hk
variable {F : Fence} {n : Nat} {P : Program}
/-- What the function that is ranged over must do: it hands over what meets Pre, one behind the other, and in the end S. -/
def SeqP {α : Type} (F : Fence) (n : Nat) (P : Program) (g : Nat) (lb : Array Value) (encs : α → Array Value) (n₀ : Nat) (Pre : List α → α → World → Prop) (S : List α → Prop) (w : World) : Prop :=
  ∀ (l : Nat) (J : List α → World → Prop) (W : World), Kc n₀ w W → n₀ ≤ W.heap.size → (∀ pre A B, J pre A → Below A.heap.size A B → J pre B) →
    (∀ pre x W1, J pre W1 → Pre pre x W1 → n₀ ≤ W1.heap.size → YieldAt F (n - 1) P l (encs x) W1 fun e W' => e = .returned (.bool true) ∧ J (pre ++ [x]) W' ∧ Below n₀ W1 W') →
    J [] W → CallsIn F n P g (#[.func (.yield l) #[] #[]] ++ lb) W fun e W' => (∃ v, e = .returned v) ∧ ∃ xs, S xs ∧ J xs W'
/-- How a round that goes on ends. -/
def postP {α : Type} (n₀ : Nat) (I : List α → World → Prop) (xs : List α) (W : World) : Exit → Act → World → Prop
  | .normal, _, W' => KeepsOthers W W' ∧ Below n₀ W W' ∧ I xs W'
  | _, _, _ => False
theorem wpIn_range_pre {α : Type} {g : Operand} {ps : Array Tmp} {assign body : Code} {Q : Exit → Act → World → Prop} {a : Act} {w : World}
    (hro : F.round = none) (h1 : 1 ≤ n) {gf : Nat} {lb : Array Value} (hg : a.eval g = .func (.func gf) #[] lb) (hFg : F.fn gf) (eg : ∀ args w, (callFunc gf args).run P w = .ok (.enter gf args) w)
    {encs : α → Array Value} (hps : ∀ x, (encs x).size = ps.size) (I : List α → World → Prop) (Pre : List α → α → World → Prop) (S : List α → Prop)
    (n₀ : Nat) (hn₀ : n₀ ≤ w.heap.size) (hseq : SeqP F (n - 1) P gf lb encs n₀ Pre S w)
    (hI : ∀ pre A B, I pre A → Kc n₀ A B → I pre B) (hP : ∀ pre x A B, Pre pre x A → Kc n₀ A B → Pre pre x B) (h0 : I [] w) (a₁ : α → Act)
    (hassign : ∀ (l : Nat) (x : α) (W : World) (K : Act → World → Prop), K (a₁ x) W →
      assign.wpIn (F.inRound l) (n - 1 - 1) P (Exit.then K (fun _ _ _ => False)) { tmps := (ps.zip (encs x)).foldl (fun t (p, v) => t.setIfInBounds p v) a.tmps, defers := [] } W)
    (hbody : ∀ (l : Nat) (pre : List α) (x : α) (W : World), I pre W → Pre pre x W → n₀ ≤ W.heap.size → body.wpIn (F.inRound l) (n - 1 - 1) P (postP n₀ I (pre ++ [x]) W) (a₁ x) W)
    (hdone : ∀ (D : Nat) (xs : List α) (W : World), w.heap.size ≤ D → S xs → I xs W → W.heap[D]? = some (.deferred (some [])) → Q .normal { a with defers := { target := .collected D, args := #[] } :: a.defers } W) :
    (Code.rangeFunc g ps assign body).wpIn F n P Q a w := by
  refine wpIn_rangeFunc ?_
  intro fn hfn
  rw [hro]
  have hen := run_enterLoop_outer (P := P) (w := w) fn a.tmps ps assign body
  generalize hd : w.heap.size = d at *
  generalize hr0 : ({ state := .ready, pending := none, fn := fn, tmps := a.tmps, params := ps, assign := assign, body := body, defers := d } : Loop) = r0 at *
  have e1 : r0.fn = fn := by rw [← hr0]
  have e2 : r0.params = ps := by rw [← hr0]
  have e3 : r0.state = .ready := by rw [← hr0]
  have e4 : r0.tmps = a.tmps := by rw [← hr0]
  have e5 : r0.assign = assign := by rw [← hr0]
  have e6 : r0.body = body := by rw [← hr0]
  have e7 : r0.pending = none := by rw [← hr0]
  generalize hW : (w.alloc (.deferred (some []))).alloc (.loop r0) = W0 at *
  have hB : Below d w W0 := by
    rw [← hW]
    exact ((Below.refl d w).alloc (by omega) _).alloc (by simp; omega) _
  have hz : W0.heap.size = d + 2 := by rw [← hW]; simp; omega
  have hD0 : W0.heap[d]? = some (.deferred (some [])) := by
    rw [← hW, Below.heap_alloc _ _ _ (by simp; omega), ← hd]; exact World.alloc_heap_new w _
  have hL0 : W0.heap[d + 1]? = some (.loop r0) := by
    have := World.alloc_heap_new (w.alloc (.deferred (some []))) (.loop r0)
    rw [World.size_alloc, hd, hW] at this
    exact this
  refine ⟨d + 1, _, W0, { target := .fn (.func gf) lb, args := #[.func (.yield (d + 1)) #[] #[]] }, W0, gf, #[.func (.yield (d + 1)) #[] #[]] ++ lb, W0, hen, ?_, ?_, ?_, fun _ => h1, ?_⟩
  · simp only [resolve, hg]; simp [go_sem]
  · intro f' hf'; simp [Target.leads] at hf'; subst hf'; exact hFg
  · simp [invoke, go_sem, eg]
  · have hKw : Kc n₀ w W0 := ⟨hB.mono hn₀, fun k _ _ _ hk => (hB.block k (by have := (Array.getElem?_eq_some_iff.1 hk).1; omega)).trans hk⟩
    have hI0 : I [] W0 := hI [] w W0 h0 hKw
    refine (hseq (d + 1) (fun pre W => I pre W ∧ W.heap[d + 1]? = some (.loop r0) ∧ W.heap[d]? = some (.deferred (some [])) ∧ d ≤ W.heap.size) W0 hKw (by omega) ?_ ?_ ⟨hI0, hL0, hD0, by omega⟩).mono ?_
    · rintro pre A B ⟨q1, q2, q3, q4⟩ hb
      have hs := hb.size
      exact ⟨hI pre A B q1 (Kc.of_below hb (by omega)), (hb.block _ (Array.getElem?_eq_some_iff.1 q2).1).trans q2, (hb.block _ (Array.getElem?_eq_some_iff.1 q3).1).trans q3, by omega⟩
    · rintro pre x W ⟨q1, q2, q3, q4⟩ hpx hdw
      have hl := (Array.getElem?_eq_some_iff.1 q2).1
      have hy := run_yield (P := P) (args := encs x) q2 (by rw [e2]; exact hps x)
      rw [e1, e2, e4, e5, e6] at hy
      refine ⟨fn, _, assign, body, hy, roundIn_of_wpIn hfn (hassign _ x W _ ⟨_, run_beginRound q2 e3, ?_⟩)⟩
      have k1 := Kc.put (n := n₀) (.loop { r0 with state := .busy }) q2 rfl (by omega)
      have l1 : (W.putObj (d + 1) (.loop { r0 with state := .busy })).heap[d + 1]? = some (.loop { r0 with state := .busy }) := World.putObj_heap_same hl
      have d1 : (W.putObj (d + 1) (.loop { r0 with state := .busy })).heap[d]? = some (.deferred (some [])) := (World.putObj_heap_other (by omega)).trans q3
      refine wpIn_mono (hbody _ pre x _ (hI _ _ _ q1 k1) (hP _ _ _ _ hpx k1) (by simp; omega)) ?_
      intro e a3 W3 hp
      cases e with
      | normal =>
        obtain ⟨m1, m2, m3⟩ := hp
        have l3 := m1.same _ _ l1 rfl
        have d3 := m1.same _ _ d1 rfl
        have hend := run_endRound (P := P) none l3
        have hl3 := (Array.getElem?_eq_some_iff.1 l3).1
        have e9 : ({ ({ r0 with state := .busy } : Loop) with state := if (none : Option Code).isNone then .ready else .done, pending := none } : Loop) = r0 := by
          rw [← hr0]; rfl
        rw [e9] at hend
        have k3 := Kc.put (n := n₀) (.loop r0) l3 rfl (by omega)
        exact ⟨_, _, hend, rfl, ⟨hI _ _ _ m3 k3, World.putObj_heap_same hl3, (World.putObj_heap_other (by omega)).trans d3, by have := m1.size; simp at this ⊢; omega⟩, (k1.b.trans m2).trans k3.b⟩
      | ret => exact hp.elim
      | exit id => exact hp.elim
      | goto t => exact hp.elim
      | panic ch => exact hp.elim
      | outgrown => exact hp.elim
    · rintro e W2 ⟨⟨v, rfl⟩, xs, hS, q1, q2, q3, q4⟩
      have hend := run_endLoop (P := P) q2 (by rw [e3]; simp)
      rw [e7] at hend
      refine ⟨none, _, hend, ?_⟩
      exact hdone d xs _ (by omega) hS (hI _ _ _ q1 (Kc.put _ q2 rfl (by omega))) ((World.putObj_heap_other (by omega)).trans q3)
end Go.Proofs.Ytdeaglfjlfbdoaa

/- A list of towers in memory. -/
namespace Go.Proofs.Ytdeaglfjlfbdoaa
open Go.RowKit

/-- An entry in memory: its block, its key's slice, its key, what is known, how high its tower is. -/
structure Nd where
  b : Nat
  kv : Value
  k : Ks
  a : Ag
  h : Nat
instance : Inhabited Nd := ⟨⟨0, .bool false, [], ⟨0, false, 0, 0, 0⟩, 0⟩⟩
def ndc (kv : Value) (a : Ag) (f : Nat → Value) : Array Value := #[kv, .int .u64 a.c, .bool a.o, .int .i64 (hi a.s), .int .u64 (lo a.s), .int .i64 a.mn, .int .i64 a.mx, f 0, f 1, f 2, f 3, f 4, f 5, f 6, f 7]
def hdc (f : Nat → Value) (n sz : Int) (fr : Bool) : Array Value := #[.slice none 0 0, .int .u64 0, .bool false, .int .i64 0, .int .u64 0, .int .i64 0, .int .i64 0, f 0, f 1, f 2, f 3, f 4, f 5, f 6, f 7, .int .i64 n, .int .i64 sz, .bool fr]
/-- The first tower that is higher than a level. -/
def nxt (N : List Nd) (k : Nat) : Value := .pointer ((N.find? fun x => decide (k < x.h)).map fun x => ⟨x.b, 0, none⟩)
/-- Places: 0 is the head, then the entries. -/
def blk (L0 : Nat) (N : List Nd) : Nat → Nat
  | 0 => L0
  | p + 1 => (N.getD p default).b
def hgt (N : List Nd) : Nat → Nat
  | 0 => 8
  | p + 1 => (N.getD p default).h
def nxF (N : List Nd) (p k : Nat) : Value := if k < hgt N p then nxt (N.drop p) k else .pointer none
/-- The last place up to i whose tower is higher than k. -/
def bp (N : List Nd) (k : Nat) : Nat → Nat
  | 0 => 0
  | i + 1 => if k < hgt N (i + 1) then i + 1 else bp N k i
theorem bp_le (N : List Nd) (k : Nat) : ∀ i, bp N k i ≤ i
  | 0 => Nat.le_refl _
  | i + 1 => by
    unfold bp; split
    · exact Nat.le_refl _
    · exact Nat.le_succ_of_le (bp_le N k i)
theorem bp_hgt (N : List Nd) (k : Nat) (hk : k < 8) : ∀ i, k < hgt N (bp N k i)
  | 0 => hk
  | i + 1 => by
    unfold bp; split
    · assumption
    · exact bp_hgt N k hk i
theorem bp_spec {N : List Nd} {k p : Nat} (hp : k < hgt N p) : ∀ i, p ≤ i → (∀ j, p < j → j ≤ i → ¬ k < hgt N j) → bp N k i = p
  | 0, h, _ => by simp [bp]; omega
  | i + 1, h, h2 => by
    unfold bp
    by_cases e : p = i + 1
    · subst e; rw [if_pos hp]
    · rw [if_neg (h2 (i + 1) (by omega) (Nat.le_refl _))]
      exact bp_spec hp i (by omega) (fun j h3 h4 => h2 j h3 (by omega))
theorem bp_none {N : List Nd} {k : Nat} : ∀ i j, bp N k i < j → j ≤ i → ¬ k < hgt N j
  | 0, j, h, h2 => by omega
  | i + 1, j, h, h2 => by
    unfold bp at h
    split at h
    · omega
    · rename_i hn
      by_cases e : j = i + 1
      · subst e; exact hn
      · exact bp_none i j h (by omega)
structure SLm (w : World) (base L0 : Nat) (N : List Nd) (F : Nat → Nat → Value) (n sz : Int) (fr : Bool) : Prop where
  hd : w.heap[L0]? = some (.cells (hdc (F 0) n sz fr) 64)
  nd : ∀ i (h : i < N.length), w.heap[N[i].b]? = some (.cells (ndc N[i].kv N[i].a (F (i + 1))) 62)
  ky : ∀ i (h : i < N.length), Own w base N[i].kv N[i].k
  b0 : base ≤ L0
  bs : ∀ x ∈ N, base ≤ x.b
  ne : (N.map Nd.b).Nodup
structure SLa (N : List Nd) (sz : Int) : Prop where
  so : (N.map Nd.k).Pairwise ltK
  ht : ∀ x ∈ N, 1 ≤ x.h ∧ x.h ≤ 8
  kl : ∀ x ∈ N, 1 ≤ x.k.length ∧ x.k.length ≤ 256
  ag : ∀ x ∈ N, 0 < x.a.c ∧ x.a.c < 18446744073709551616 ∧ rightB x.a = true
  sz : sz = ((N.map fun x => x.k.length + 41).sum : Nat)
  le : N.length ≤ 4096
/-- A list in memory. -/
def SL (w : World) (base L0 : Nat) (N : List Nd) (sz : Int) (fr : Bool) : Prop := SLm w base L0 N (nxF N) N.length sz fr ∧ SLa N sz
theorem SLm.kc {n : Nat} {A B : World} {base L0 : Nat} {N : List Nd} {F : Nat → Nat → Value} {m sz : Int} {fr : Bool} (h : SLm A base L0 N F m sz fr) (hk : Kc n A B) : SLm B base L0 N F m sz fr := by
  refine ⟨hk.c _ _ _ _ h.hd, fun i hi => hk.c _ _ _ _ (h.nd i hi), fun i hi => ?_, h.b0, h.bs, h.ne⟩
  obtain ⟨h1, h2⟩ := h.ky i hi
  refine ⟨h1, ?_⟩
  rcases h2 with h2 | ⟨g, cap, cur, hv, hg, hw, r⟩
  · exact .inl h2
  · exact .inr ⟨g, cap, cur, hv, hg, hk.c _ _ _ _ hw, r⟩
theorem SL.kc {n : Nat} {A B : World} {base L0 : Nat} {N : List Nd} {sz : Int} {fr : Bool} (h : SL A base L0 N sz fr) (hk : Kc n A B) : SL B base L0 N sz fr := ⟨h.1.kc hk, h.2⟩
theorem SL.below {A B : World} {base L0 : Nat} {N : List Nd} {sz : Int} {fr : Bool} (h : SL A base L0 N sz fr) (hb : Below A.heap.size A B) : SL B base L0 N sz fr := h.kc (Kc.of_below hb (Nat.le_refl _))
theorem hgt_at {N : List Nd} {i : Nat} (h : i < N.length) : hgt N (i + 1) = N[i].h := by simp [hgt, List.getD, h]
theorem blk_at {L0 : Nat} {N : List Nd} {i : Nat} (h : i < N.length) : blk L0 N (i + 1) = N[i].b := by simp [blk, List.getD, h]
/-- What the first higher tower behind a place is. -/
theorem nxt_some {N : List Nd} {p k : Nat} {j : Nat} (hj : j < N.length) (hp : p ≤ j) (hk : k < N[j].h) (hno : ∀ i (h : i < N.length), p ≤ i → i < j → ¬ k < N[i].h) : nxt (N.drop p) k = .pointer (some ⟨N[j].b, 0, none⟩) := by
  unfold nxt
  have e : (N.drop p).find? (fun x => decide (k < x.h)) = some N[j] := by
    rw [List.find?_eq_some_iff_getElem]
    refine ⟨by simpa using hk, j - p, by simp; omega, by simp [show p + (j - p) = j by omega], fun i hi => ?_⟩
    have := hno (p + i) (by omega) (by omega) (by omega)
    simpa using this
  rw [e]; rfl
theorem nxt_none {N : List Nd} {p k : Nat} (hno : ∀ i (h : i < N.length), p ≤ i → ¬ k < N[i].h) : nxt (N.drop p) k = .pointer none := by
  unfold nxt
  have e : (N.drop p).find? (fun x => decide (k < x.h)) = none := by
    rw [List.find?_eq_none]
    intro x hx
    obtain ⟨i, hi, rfl⟩ := List.mem_iff_getElem.1 hx
    have := hno (p + i) (by simp at hi; omega) (by omega)
    simpa using this
  rw [e]; rfl
/-- Either there is none, or it is a first one. -/
theorem nxt_cases (N : List Nd) (p k : Nat) : (nxt (N.drop p) k = .pointer none ∧ ∀ i (h : i < N.length), p ≤ i → ¬ k < N[i].h) ∨ ∃ j, ∃ hj : j < N.length, p ≤ j ∧ k < N[j].h ∧ (∀ i (h : i < N.length), p ≤ i → i < j → ¬ k < N[i].h) ∧ nxt (N.drop p) k = .pointer (some ⟨N[j].b, 0, none⟩) := by
  cases hf : (N.drop p).find? (fun x => decide (k < x.h)) with
  | none =>
    left
    rw [List.find?_eq_none] at hf
    have hno : ∀ i (h : i < N.length), p ≤ i → ¬ k < N[i].h := by
      intro i hi hpi
      have := hf N[i] (by rw [List.mem_iff_getElem]; exact ⟨i - p, by simp; omega, by simp [show p + (i - p) = i by omega]⟩)
      simpa using this
    exact ⟨nxt_none hno, hno⟩
  | some x =>
    right
    rw [List.find?_eq_some_iff_getElem] at hf
    obtain ⟨h1, i, hi, h2, h3⟩ := hf
    simp at hi
    have hno : ∀ i' (h : i' < N.length), p ≤ i' → i' < p + i → ¬ k < N[i'].h := by
      intro i' hi' hpi hlt
      have := h3 (i' - p) (by omega)
      simpa [show p + (i' - p) = i' by omega] using this
    have h4 : k < (N[p + i]'(by omega)).h := by simp at h2; rw [h2]; simpa using h1
    exact ⟨p + i, by omega, by omega, h4, hno, nxt_some (by omega) (by omega) h4 hno⟩
theorem SLm.blk_hd {w : World} {base L0 : Nat} {N : List Nd} {F : Nat → Nat → Value} {m sz : Int} {fr : Bool} (h : SLm w base L0 N F m sz fr) {p : Nat} (hp : p ≤ N.length) {k : Nat} (hk : k < 8) : w.cell? ⟨blk L0 N p, 7 + k, none⟩ = some (F p k) ∧ w.frozen? ⟨blk L0 N p, 7 + k, none⟩ = false ∧ blk L0 N p < w.heap.size := by
  cases p with
  | zero =>
    have := h.hd
    refine ⟨?_, ?_, (Array.getElem?_eq_some_iff.1 this).1⟩
    · show w.cell? ⟨L0, 7 + k, none⟩ = _
      match k, hk with
      | 0, _ | 1, _ | 2, _ | 3, _ | 4, _ | 5, _ | 6, _ | 7, _ => simp [World.cell?, this, hdc]
    · show w.frozen? ⟨L0, 7 + k, none⟩ = _
      simp [World.frozen?, this]
  | succ p =>
    have := h.nd p (by omega)
    rw [blk_at (by omega)]
    refine ⟨?_, ?_, (Array.getElem?_eq_some_iff.1 this).1⟩
    · match k, hk with
      | 0, _ | 1, _ | 2, _ | 3, _ | 4, _ | 5, _ | 6, _ | 7, _ => simp [World.cell?, this, ndc]
    · simp [World.frozen?, this]
end Go.Proofs.Ytdeaglfjlfbdoaa

/- The contract of the list's before. -/
namespace Go.Proofs.Ytdeaglfjlfbdoaa
open Go.RowKit

def ar8 (G : Nat → Value) : Array Value := #[G 0, G 1, G 2, G 3, G 4, G 5, G 6, G 7]
theorem ar8_set (G : Nat → Value) (k : Nat) (hk : k < 8) (v : Value) : (ar8 G).setIfInBounds k v = ar8 fun j => if j = k then v else G j := by
  match k, hk with
  | 0, _ | 1, _ | 2, _ | 3, _ | 4, _ | 5, _ | 6, _ | 7, _ => simp [ar8]
theorem ar8_congr {G H : Nat → Value} (h : ∀ k, k < 8 → G k = H k) : ar8 G = ar8 H := by
  unfold ar8
  rw [h 0 (by decide), h 1 (by decide), h 2 (by decide), h 3 (by decide), h 4 (by decide), h 5 (by decide), h 6 (by decide), h 7 (by decide)]
theorem ar8_at (G : Nat → Value) (k : Nat) (hk : k < 8) : (ar8 G)[k]? = some (G k) := by
  match k, hk with
  | 0, _ | 1, _ | 2, _ | 3, _ | 4, _ | 5, _ | 6, _ | 7, _ => simp [ar8]
theorem blk_inj {w : World} {base L0 : Nat} {N : List Nd} {F : Nat → Nat → Value} {m sz : Int} {fr : Bool} (h : SLm w base L0 N F m sz fr) : ∀ {p q : Nat}, p ≤ N.length → q ≤ N.length → blk L0 N p = blk L0 N q → p = q := by
  have h0 : ∀ i (hi : i < N.length), N[i].b ≠ L0 := by
    intro i hi e
    have h1 := h.nd i hi
    rw [e, h.hd] at h1
    simp at h1
  intro p q hp hq e
  cases p with
  | zero => cases q with
    | zero => rfl
    | succ q => rw [blk_at (by omega)] at e; exact absurd e.symm (h0 q (by omega))
  | succ p => cases q with
    | zero => rw [blk_at (by omega)] at e; exact absurd e (h0 p (by omega))
    | succ q =>
      rw [blk_at (by omega), blk_at (by omega)] at e
      have hn := List.pairwise_iff_getElem.1 h.ne
      rcases Nat.lt_trichotomy p q with h1 | h1 | h1
      · exact absurd (by rw [List.getElem_map, List.getElem_map]; exact e) (hn p q (by simp; omega) (by simp; omega) h1)
      · omega
      · exact absurd (by rw [List.getElem_map, List.getElem_map]; exact e.symm) (hn q p (by simp; omega) (by simp; omega) h1)
def pIdx (L0 : Nat) (N : List Nd) (v : Value) : Nat :=
  match v with
  | .pointer (some a) => ((List.range (N.length + 1)).find? fun q => blk L0 N q == a.block).getD 0
  | _ => 0
theorem pIdx_blk {w : World} {base L0 : Nat} {N : List Nd} {F : Nat → Nat → Value} {m sz : Int} {fr : Bool} (h : SLm w base L0 N F m sz fr) {p : Nat} (hp : p ≤ N.length) : pIdx L0 N (.pointer (some ⟨blk L0 N p, 0, none⟩)) = p := by
  unfold pIdx
  have e : (List.range (N.length + 1)).find? (fun q => blk L0 N q == blk L0 N p) = some p := by
    rw [List.find?_eq_some_iff_getElem]
    refine ⟨by simp, p, by simp; omega, by simp, fun j hj => ?_⟩
    simp
    intro e
    have := blk_inj h (by omega) hp e
    omega
  simp only [e]; rfl
def ArB (w : World) (b : Nat) (G : Nat → Value) : Prop := w.heap[b]? = some (.cells (ar8 G) 59)
theorem ArB.cell {w : World} {b : Nat} {G : Nat → Value} (h : ArB w b G) {k : Nat} (hk : k < 8) : w.cell? ⟨b, k, none⟩ = some (G k) ∧ w.frozen? ⟨b, k, none⟩ = false := by
  refine ⟨?_, by simp [World.frozen?, show w.heap[b]? = _ from h]⟩
  simp [World.cell?, show w.heap[b]? = _ from h, ar8_at G k hk]
theorem ArB.set {w : World} {b : Nat} {G : Nat → Value} (h : ArB w b G) {k : Nat} (hk : k < 8) (v : Value) : ArB (w.setCell ⟨b, k, none⟩ v) b fun j => if j = k then v else G j := by
  unfold ArB; rw [← ar8_set G k hk v]; exact Go.heap_setCell_same w b k _ _ v h
set_option maxRecDepth 100000 in
set_option maxHeartbeats 1000000 in
theorem before_any (L0 : Nat) (N : List Nd) (sz : Int) (fr : Bool) (kv : Value) (key : Ks) (w : World) (base : Nat) (hS : SL w base L0 N sz fr) (hR : Reads w kv key) :
    Calls Try.prog 22 #[.pointer (some ⟨L0, 0, none⟩), kv] w fun e w' => e = .returned (.agg (ar8 fun k => .pointer (some ⟨blk L0 N (bp N k (plK (N.map Nd.k) key)), 0, none⟩))) ∧ Below w.heap.size w w' := by
  have HS : Hid (SL w base L0 N sz fr) := hS
  have HR : Hid (Reads w kv key) := hR
  obtain ⟨ak, ck, rfl, _⟩ := hR.form
  clear hS hR
  obtain ⟨i, Hi⟩ := hid_ex (plK (N.map Nd.k) key)
  have hiN : i ≤ N.length := by rw [Hi.out]; have := plK_le (N.map Nd.k) key; simpa using this
  rw [← Hi.out]
  go_enter Try.func22, Try.ntmps22
  go_wp2_with fail
  go_step3
  go_wp2_with fail
  go_step3
  go_wp2_with fail
  have HA0 : Hid (ArB ((w.alloc (.cells #[.pointer none, .pointer none, .pointer none, .pointer none, .pointer none, .pointer none, .pointer none, .pointer none] 59)).alloc (.cells #[.pointer none, .pointer none, .pointer none, .pointer none, .pointer none, .pointer none, .pointer none, .pointer none] 59)) (w.heap.size + 1) fun _ => .pointer none) := by
    have := World.alloc_heap_new (w.alloc (.cells #[.pointer none, .pointer none, .pointer none, .pointer none, .pointer none, .pointer none, .pointer none, .pointer none] 59)) (.cells #[.pointer none, .pointer none, .pointer none, .pointer none, .pointer none, .pointer none, .pointer none, .pointer none] 59)
    rw [World.size_alloc] at this; exact this
  have HR0 : Hid (ArB ((w.alloc (.cells #[.pointer none, .pointer none, .pointer none, .pointer none, .pointer none, .pointer none, .pointer none, .pointer none] 59)).alloc (.cells #[.pointer none, .pointer none, .pointer none, .pointer none, .pointer none, .pointer none, .pointer none, .pointer none] 59)) w.heap.size fun _ => .pointer none) :=
    (((Below.refl (w.heap.size + 1) _).alloc (by simp) _).block w.heap.size (by omega)).trans (World.alloc_heap_new w _)
  have HB0 : Hid (Below w.heap.size w ((w.alloc (.cells #[.pointer none, .pointer none, .pointer none, .pointer none, .pointer none, .pointer none, .pointer none, .pointer none] 59)).alloc (.cells #[.pointer none, .pointer none, .pointer none, .pointer none, .pointer none, .pointer none, .pointer none, .pointer none] 59))) := ((Below.refl _ _).alloc (Nat.le_refl _) _).alloc (by simp) _
  go_loopw [6, 7] (fun a6 a7 wr => ∃ (m p : Nat) (G : Nat → Value), m ≤ 8 ∧ a7 = .int .i64 ((m : Int) - 1) ∧ a6 = .pointer (some ⟨blk L0 N p, 0, none⟩) ∧ p ≤ i ∧ m ≤ hgt N p ∧ Hid (∀ k, m ≤ k → k < 8 → G k = .pointer (some ⟨blk L0 N (bp N k i), 0, none⟩)) ∧ Hid (ArB wr (w.heap.size + 1) G) ∧ Hid (ArB wr w.heap.size fun _ => .pointer none) ∧ Hid (Below w.heap.size w wr)) (fun _ a7 _ => ((intOf a7) + 1).toNat)
  case atStart => exact ⟨8, 0, _, Nat.le_refl _, rfl, rfl, Nat.zero_le _, Nat.le_refl _, (fun k h1 h2 => by omega), HA0, HR0, HB0⟩
  case round =>
    clear HA0 HR0 HB0
    obtain ⟨m, p, G, hm, rfl, rfl, hp, hh, HG, HA, HR1, HB⟩ := hrel
    cases m with
    | zero =>
      have c0 := (HA.out.cell (k := 0) (by decide)).1
      rw [HG.out 0 (by omega) (by decide)] at c0
      obtain ⟨z0, f0⟩ := HR1.out.cell (k := 0) (by decide)
      have c1 := (HA.out.cell (k := 1) (by decide)).1
      rw [HG.out 1 (by omega) (by decide)] at c1
      obtain ⟨z1, f1⟩ := HR1.out.cell (k := 1) (by decide)
      have c2 := (HA.out.cell (k := 2) (by decide)).1
      rw [HG.out 2 (by omega) (by decide)] at c2
      obtain ⟨z2, f2⟩ := HR1.out.cell (k := 2) (by decide)
      have c3 := (HA.out.cell (k := 3) (by decide)).1
      rw [HG.out 3 (by omega) (by decide)] at c3
      obtain ⟨z3, f3⟩ := HR1.out.cell (k := 3) (by decide)
      have c4 := (HA.out.cell (k := 4) (by decide)).1
      rw [HG.out 4 (by omega) (by decide)] at c4
      obtain ⟨z4, f4⟩ := HR1.out.cell (k := 4) (by decide)
      have c5 := (HA.out.cell (k := 5) (by decide)).1
      rw [HG.out 5 (by omega) (by decide)] at c5
      obtain ⟨z5, f5⟩ := HR1.out.cell (k := 5) (by decide)
      have c6 := (HA.out.cell (k := 6) (by decide)).1
      rw [HG.out 6 (by omega) (by decide)] at c6
      obtain ⟨z6, f6⟩ := HR1.out.cell (k := 6) (by decide)
      have c7 := (HA.out.cell (k := 7) (by decide)).1
      rw [HG.out 7 (by omega) (by decide)] at c7
      obtain ⟨z7, f7⟩ := HR1.out.cell (k := 7) (by decide)
      have HAR : Hid _ := ((((((((HR1.out.set (k := 0) (by decide) (.pointer (some ⟨blk L0 N (bp N 0 i), 0, none⟩))).set (k := 1) (by decide) (.pointer (some ⟨blk L0 N (bp N 1 i), 0, none⟩))).set (k := 2) (by decide) (.pointer (some ⟨blk L0 N (bp N 2 i), 0, none⟩))).set (k := 3) (by decide) (.pointer (some ⟨blk L0 N (bp N 3 i), 0, none⟩))).set (k := 4) (by decide) (.pointer (some ⟨blk L0 N (bp N 4 i), 0, none⟩))).set (k := 5) (by decide) (.pointer (some ⟨blk L0 N (bp N 5 i), 0, none⟩))).set (k := 6) (by decide) (.pointer (some ⟨blk L0 N (bp N 6 i), 0, none⟩))).set (k := 7) (by decide) (.pointer (some ⟨blk L0 N (bp N 7 i), 0, none⟩)))
      have HBR : Hid _ := ((((((((HB.out.setCell (p := ⟨w.heap.size, 0, none⟩) (Nat.le_refl _) (.pointer (some ⟨blk L0 N (bp N 0 i), 0, none⟩))).setCell (p := ⟨w.heap.size, 1, none⟩) (Nat.le_refl _) (.pointer (some ⟨blk L0 N (bp N 1 i), 0, none⟩))).setCell (p := ⟨w.heap.size, 2, none⟩) (Nat.le_refl _) (.pointer (some ⟨blk L0 N (bp N 2 i), 0, none⟩))).setCell (p := ⟨w.heap.size, 3, none⟩) (Nat.le_refl _) (.pointer (some ⟨blk L0 N (bp N 3 i), 0, none⟩))).setCell (p := ⟨w.heap.size, 4, none⟩) (Nat.le_refl _) (.pointer (some ⟨blk L0 N (bp N 4 i), 0, none⟩))).setCell (p := ⟨w.heap.size, 5, none⟩) (Nat.le_refl _) (.pointer (some ⟨blk L0 N (bp N 5 i), 0, none⟩))).setCell (p := ⟨w.heap.size, 6, none⟩) (Nat.le_refl _) (.pointer (some ⟨blk L0 N (bp N 6 i), 0, none⟩))).setCell (p := ⟨w.heap.size, 7, none⟩) (Nat.le_refl _) (.pointer (some ⟨blk L0 N (bp N 7 i), 0, none⟩)))
      clear HG HA HR1 HB
      go_wp2_with fail
      rw [Exit.noGoto_ret]
      refine bodyPost_ret (results_cell_row rfl _ _ w.heap.size _ _ (0, 0) _ rfl HAR.out Try.underlying59 rfl (by kernel_rfl)) rfl ⟨?_, HBR.out⟩
      congr 2
    | succ m =>
      have em : ((m + 1 : Nat) : Int) - 1 = (m : Int) := by omega
      rw [em]
      clear em
      go_wp2_with fail
      rename World => wo
      go_loopw [6] (fun a6 wr => ∃ (p : Nat) (G : Nat → Value), a6 = .pointer (some ⟨blk L0 N p, 0, none⟩) ∧ p ≤ i ∧ m < hgt N p ∧ Hid (∀ k, m + 1 ≤ k → k < 8 → G k = .pointer (some ⟨blk L0 N (bp N k i), 0, none⟩)) ∧ Hid (ArB wr (w.heap.size + 1) G) ∧ Hid (ArB wr w.heap.size fun _ => .pointer none) ∧ Hid (Below w.heap.size w wr)) (fun a6 _ => i - pIdx L0 N a6)
      case atStart => exact ⟨p, G, rfl, hp, by omega, HG, HA, HR1, HB⟩
      case round =>
        clear HG HA HR1 HB hh hp
        obtain ⟨p, G, rfl, hp, hh, HG, HA, HR1, HB⟩ := hrel
        obtain ⟨cA, fA⟩ := HA.out.cell (k := m) (by omega)
        have HA2 : Hid _ := HA.out.set (k := m) (by omega) (.pointer (some ⟨blk L0 N p, 0, none⟩))
        have HB2 : Hid (Below w.heap.size w (wr.setCell ⟨w.heap.size + 1, m, none⟩ (.pointer (some ⟨blk L0 N p, 0, none⟩)))) := HB.out.setCell (by simp) _
        have HR2 : Hid (ArB (wr.setCell ⟨w.heap.size + 1, m, none⟩ (.pointer (some ⟨blk L0 N p, 0, none⟩))) w.heap.size fun _ => .pointer none) := (Below.heap_setCell _ _ _ _ (by simp)).trans HR1.out
        obtain ⟨cN, _, hbl⟩ := HS.out.1.blk_hd (p := p) (by omega) (k := m) (by omega)
        have cN2 := (HB2.out.cell (p := ⟨blk L0 N p, 7 + m, none⟩) hbl).trans cN
        rw [nxF, if_pos hh] at cN2
        have hkm : ∀ k, m ≤ k → k < 8 → (∀ j, p < j → j ≤ i → ¬ m < hgt N j) → (if k = m then (.pointer (some ⟨blk L0 N p, 0, none⟩) : Value) else G k) = .pointer (some ⟨blk L0 N (bp N k i), 0, none⟩) := by
          intro k h1 h2 h3
          by_cases e : k = m
          · subst e; rw [if_pos rfl, bp_spec hh i hp h3]
          · rw [if_neg e]; exact HG.out k (by omega) h2
        have HKM : Hid _ := hkm
        clear hkm HA HB HR1 cN
        rcases nxt_cases N p m with ⟨en, hno⟩ | ⟨j, hj, hpj, hmj, hno, en⟩
        · rw [en] at cN2
          have HGN : Hid (∀ k, m ≤ k → k < 8 → (if k = m then (.pointer (some ⟨blk L0 N p, 0, none⟩) : Value) else G k) = .pointer (some ⟨blk L0 N (bp N k i), 0, none⟩)) := fun k h1 h2 => HKM.out k h1 h2 (fun j h3 h4 h5 => by
            obtain ⟨j, rfl⟩ : ∃ j', j = j' + 1 := ⟨j - 1, by omega⟩
            rw [hgt_at (by omega)] at h5
            exact hno j (by omega) (by omega) h5)
          clear en HKM hno
          go_wp2_with fail
          go_roundw
          case rel => exact ⟨m, p, _, by omega, by go_num, rfl, hp, by omega, HGN, HA2, HR2, HB2⟩
          case measure => simp [intOf]
        · rw [en] at cN2
          obtain ⟨vk, Hvk⟩ := hid_ex N[j].kv
          obtain ⟨kk, Hkk⟩ := hid_ex N[j].k
          have hO := HS.out.1.ky j hj
          have hn := HS.out.1.nd j hj
          rw [← Hvk.out] at hO hn
          rw [← Hkk.out] at hO
          obtain ⟨bj, Hbj⟩ := hid_ex N[j].b
          rw [← Hbj.out] at hn cN2
          have hbj := (Array.getElem?_eq_some_iff.1 hn).1
          have ck0 : w.cell? ⟨bj, 0, none⟩ = some vk := by simp [World.cell?, hn, ndc]
          have ckk := (HB2.out.cell (p := ⟨bj, 0, none⟩) hbj).trans ck0
          obtain ⟨av, cv, rfl, _⟩ := hO.form
          have HRk : Hid (Reads (wr.setCell ⟨w.heap.size + 1, m, none⟩ (.pointer (some ⟨blk L0 N p, 0, none⟩))) (.slice av kk.length cv) kk) := hO.reads.below HB2.out
          have HRq : Hid (Reads (wr.setCell ⟨w.heap.size + 1, m, none⟩ (.pointer (some ⟨blk L0 N p, 0, none⟩))) (.slice ak key.length ck) key) := HR.out.below HB2.out
          clear hO hn ck0 en
          go_wp2_with fail
          refine (cmp_any _ _ kk key _ HRk.out HRq.out).mono ?_
          rintro e w5 ⟨rfl, hw5⟩
          subst w5
          by_cases hlt : ltK kk key
          · have hc : ¬ 0 ≤ Lib.compareBytes kk key := fun h => (cmp_ge.1 h) hlt
            have hji : j < i := by
              rcases Nat.lt_or_ge j i with h | h
              · exact h
              · exfalso
                have := plK_ge HS.out.2.so (k := key) (i := j) (by rw [← Hi.out]; exact h) (by simpa using hj)
                rw [List.getElem_map, ← Hkk.out] at this
                exact this hlt
            have HGN : Hid (∀ k, m + 1 ≤ k → k < 8 → (if k = m then (.pointer (some ⟨blk L0 N p, 0, none⟩) : Value) else G k) = .pointer (some ⟨blk L0 N (bp N k i), 0, none⟩)) := fun k h1 h2 => by rw [if_neg (by omega)]; exact HG.out k h1 h2
            have ebj : bj = blk L0 N (j + 1) := by rw [blk_at hj, Hbj.out]
            have HM1 : Hid (pIdx L0 N (.pointer (some ⟨blk L0 N p, 0, none⟩)) = p) := pIdx_blk HS.out.1 (by omega)
            have HM2 : Hid (pIdx L0 N (.pointer (some ⟨blk L0 N (j + 1), 0, none⟩)) = j + 1) := pIdx_blk HS.out.1 (by omega)
            have HHj : Hid (m < hgt N (j + 1)) := by unfold Hid; rw [hgt_at hj]; exact hmj
            clear HKM hno HRk HRq
            go_wp2_with fail
            subst ebj
            refine ⟨⟨j + 1, _, rfl, by omega, HHj.out, HGN, HA2, HR2, HB2⟩, ?_⟩
            rw [HM1.out, HM2.out]; omega
          · have hc : 0 ≤ Lib.compareBytes kk key := cmp_ge.2 hlt
            have hji : i ≤ j := by
              rcases Nat.lt_or_ge j i with h | h
              · exfalso
                have := plK_lt (N := N.map Nd.k) (k := key) (i := j) (by rw [← Hi.out]; exact h) (by simpa using hj)
                rw [List.getElem_map, ← Hkk.out] at this
                exact hlt this
              · exact h
            have HGN : Hid (∀ k, m ≤ k → k < 8 → (if k = m then (.pointer (some ⟨blk L0 N p, 0, none⟩) : Value) else G k) = .pointer (some ⟨blk L0 N (bp N k i), 0, none⟩)) := fun k h1 h2 => HKM.out k h1 h2 (fun j' h3 h4 h5 => by
              obtain ⟨j', rfl⟩ : ∃ j'', j' = j'' + 1 := ⟨j' - 1, by omega⟩
              rw [hgt_at (by omega)] at h5
              exact hno j' (by omega) (by omega) (by omega) h5)
            clear HKM hno HRk HRq hmj
            go_wp2_with fail
            go_roundw
            case rel => exact ⟨m, p, _, by omega, by go_num, rfl, hp, by omega, HGN, HA2, HR2, HB2⟩
            case measure => simp [intOf]
end Go.Proofs.Ytdeaglfjlfbdoaa
