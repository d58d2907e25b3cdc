/- A list of towers in memory. -/
import Derived.Test.YtbeemkcdpmbhmaaS1
import Derived.Test.YtbeemkcdpmbhmaaS2
import Derived.Test.YtbeemkcdpmbhmaaCP0
import Derived.Test.YtbeemkcdpmbhmaaF1
namespace Go.Proofs.Ytbeemkcdpmbhmaa
open Go.RowKit

/-- An entry in memory: its block, its key's slice, its key, what is known, how high its tower is. -/
structure Nd where
  b : Nat
  kv : Value
  k : Ks
  a : Ag
  h : Nat
instance : Inhabited Nd := ⟨⟨0, .bool false, [], ⟨0, false, 0, 0, 0⟩, 0⟩⟩
def ndc (kv : Value) (a : Ag) (f : Nat → Value) : Array Value := #[kv, .int .u64 a.c, .bool a.o, .int .i64 (hi a.s), .int .u64 (lo a.s), .int .i64 a.mn, .int .i64 a.mx, f 0, f 1, f 2, f 3, f 4, f 5, f 6, f 7]
def hdc (f : Nat → Value) (n sz : Int) (fr : Bool) : Array Value := #[.slice none 0 0, .int .u64 0, .bool false, .int .i64 0, .int .u64 0, .int .i64 0, .int .i64 0, f 0, f 1, f 2, f 3, f 4, f 5, f 6, f 7, .int .i64 n, .int .i64 sz, .bool fr]
/-- The first tower that is higher than a level. -/
def nxt (N : List Nd) (k : Nat) : Value := .pointer ((N.find? fun x => decide (k < x.h)).map fun x => ⟨x.b, 0, none⟩)
/-- Places: 0 is the head, then the entries. -/
def blk (L0 : Nat) (N : List Nd) : Nat → Nat
  | 0 => L0
  | p + 1 => (N.getD p default).b
def hgt (N : List Nd) : Nat → Nat
  | 0 => 8
  | p + 1 => (N.getD p default).h
def nxF (N : List Nd) (p k : Nat) : Value := if k < hgt N p then nxt (N.drop p) k else .pointer none
/-- The last place up to i whose tower is higher than k. -/
def bp (N : List Nd) (k : Nat) : Nat → Nat
  | 0 => 0
  | i + 1 => if k < hgt N (i + 1) then i + 1 else bp N k i
theorem bp_le (N : List Nd) (k : Nat) : ∀ i, bp N k i ≤ i
  | 0 => Nat.le_refl _
  | i + 1 => by
    unfold bp; split
    · exact Nat.le_refl _
    · exact Nat.le_succ_of_le (bp_le N k i)
theorem bp_hgt (N : List Nd) (k : Nat) (hk : k < 8) : ∀ i, k < hgt N (bp N k i)
  | 0 => hk
  | i + 1 => by
    unfold bp; split
    · assumption
    · exact bp_hgt N k hk i
theorem bp_spec {N : List Nd} {k p : Nat} (hp : k < hgt N p) : ∀ i, p ≤ i → (∀ j, p < j → j ≤ i → ¬ k < hgt N j) → bp N k i = p
  | 0, h, _ => by simp [bp]; omega
  | i + 1, h, h2 => by
    unfold bp
    by_cases e : p = i + 1
    · subst e; rw [if_pos hp]
    · rw [if_neg (h2 (i + 1) (by omega) (Nat.le_refl _))]
      exact bp_spec hp i (by omega) (fun j h3 h4 => h2 j h3 (by omega))
theorem bp_none {N : List Nd} {k : Nat} : ∀ i j, bp N k i < j → j ≤ i → ¬ k < hgt N j
  | 0, j, h, h2 => by omega
  | i + 1, j, h, h2 => by
    unfold bp at h
    split at h
    · omega
    · rename_i hn
      by_cases e : j = i + 1
      · subst e; exact hn
      · exact bp_none i j h (by omega)
structure SLm (w : World) (base L0 : Nat) (N : List Nd) (F : Nat → Nat → Value) (n sz : Int) (fr : Bool) : Prop where
  hd : w.heap[L0]? = some (.cells (hdc (F 0) n sz fr) 57)
  nd : ∀ i (h : i < N.length), w.heap[N[i].b]? = some (.cells (ndc N[i].kv N[i].a (F (i + 1))) 55)
  ky : ∀ i (h : i < N.length), Own w base N[i].kv N[i].k
  b0 : base ≤ L0
  bs : ∀ x ∈ N, base ≤ x.b
  ne : (N.map Nd.b).Nodup
structure SLa (N : List Nd) (sz : Int) : Prop where
  so : (N.map Nd.k).Pairwise ltK
  ht : ∀ x ∈ N, 1 ≤ x.h ∧ x.h ≤ 8
  kl : ∀ x ∈ N, 1 ≤ x.k.length ∧ x.k.length ≤ 256
  ag : ∀ x ∈ N, 0 < x.a.c ∧ x.a.c < 18446744073709551616 ∧ rightB x.a = true
  sz : sz = ((N.map fun x => x.k.length + 41).sum : Nat)
  le : N.length ≤ 4096
/-- A list in memory. -/
def SL (w : World) (base L0 : Nat) (N : List Nd) (sz : Int) (fr : Bool) : Prop := SLm w base L0 N (nxF N) N.length sz fr ∧ SLa N sz
theorem SLm.kc {n : Nat} {A B : World} {base L0 : Nat} {N : List Nd} {F : Nat → Nat → Value} {m sz : Int} {fr : Bool} (h : SLm A base L0 N F m sz fr) (hk : Kc n A B) : SLm B base L0 N F m sz fr := by
  refine ⟨hk.c _ _ _ _ h.hd, fun i hi => hk.c _ _ _ _ (h.nd i hi), fun i hi => ?_, h.b0, h.bs, h.ne⟩
  obtain ⟨h1, h2⟩ := h.ky i hi
  refine ⟨h1, ?_⟩
  rcases h2 with h2 | ⟨g, cap, cur, hv, hg, hw, r⟩
  · exact .inl h2
  · exact .inr ⟨g, cap, cur, hv, hg, hk.c _ _ _ _ hw, r⟩
theorem SL.kc {n : Nat} {A B : World} {base L0 : Nat} {N : List Nd} {sz : Int} {fr : Bool} (h : SL A base L0 N sz fr) (hk : Kc n A B) : SL B base L0 N sz fr := ⟨h.1.kc hk, h.2⟩
theorem SL.below {A B : World} {base L0 : Nat} {N : List Nd} {sz : Int} {fr : Bool} (h : SL A base L0 N sz fr) (hb : Below A.heap.size A B) : SL B base L0 N sz fr := h.kc (Kc.of_below hb (Nat.le_refl _))
theorem hgt_at {N : List Nd} {i : Nat} (h : i < N.length) : hgt N (i + 1) = N[i].h := by simp [hgt, List.getD, h]
theorem blk_at {L0 : Nat} {N : List Nd} {i : Nat} (h : i < N.length) : blk L0 N (i + 1) = N[i].b := by simp [blk, List.getD, h]
/-- What the first higher tower behind a place is. -/
theorem nxt_some {N : List Nd} {p k : Nat} {j : Nat} (hj : j < N.length) (hp : p ≤ j) (hk : k < N[j].h) (hno : ∀ i (h : i < N.length), p ≤ i → i < j → ¬ k < N[i].h) : nxt (N.drop p) k = .pointer (some ⟨N[j].b, 0, none⟩) := by
  unfold nxt
  have e : (N.drop p).find? (fun x => decide (k < x.h)) = some N[j] := by
    rw [List.find?_eq_some_iff_getElem]
    refine ⟨by simpa using hk, j - p, by simp; omega, by simp [show p + (j - p) = j by omega], fun i hi => ?_⟩
    have := hno (p + i) (by omega) (by omega) (by omega)
    simpa using this
  rw [e]; rfl
theorem nxt_none {N : List Nd} {p k : Nat} (hno : ∀ i (h : i < N.length), p ≤ i → ¬ k < N[i].h) : nxt (N.drop p) k = .pointer none := by
  unfold nxt
  have e : (N.drop p).find? (fun x => decide (k < x.h)) = none := by
    rw [List.find?_eq_none]
    intro x hx
    obtain ⟨i, hi, rfl⟩ := List.mem_iff_getElem.1 hx
    have := hno (p + i) (by simp at hi; omega) (by omega)
    simpa using this
  rw [e]; rfl
/-- Either there is none, or it is a first one. -/
theorem nxt_cases (N : List Nd) (p k : Nat) : (nxt (N.drop p) k = .pointer none ∧ ∀ i (h : i < N.length), p ≤ i → ¬ k < N[i].h) ∨ ∃ j, ∃ hj : j < N.length, p ≤ j ∧ k < N[j].h ∧ (∀ i (h : i < N.length), p ≤ i → i < j → ¬ k < N[i].h) ∧ nxt (N.drop p) k = .pointer (some ⟨N[j].b, 0, none⟩) := by
  cases hf : (N.drop p).find? (fun x => decide (k < x.h)) with
  | none =>
    left
    rw [List.find?_eq_none] at hf
    have hno : ∀ i (h : i < N.length), p ≤ i → ¬ k < N[i].h := by
      intro i hi hpi
      have := hf N[i] (by rw [List.mem_iff_getElem]; exact ⟨i - p, by simp; omega, by simp [show p + (i - p) = i by omega]⟩)
      simpa using this
    exact ⟨nxt_none hno, hno⟩
  | some x =>
    right
    rw [List.find?_eq_some_iff_getElem] at hf
    obtain ⟨h1, i, hi, h2, h3⟩ := hf
    simp at hi
    have hno : ∀ i' (h : i' < N.length), p ≤ i' → i' < p + i → ¬ k < N[i'].h := by
      intro i' hi' hpi hlt
      have := h3 (i' - p) (by omega)
      simpa [show p + (i' - p) = i' by omega] using this
    have h4 : k < (N[p + i]'(by omega)).h := by simp at h2; rw [h2]; simpa using h1
    exact ⟨p + i, by omega, by omega, h4, hno, nxt_some (by omega) (by omega) h4 hno⟩
theorem SLm.blk_hd {w : World} {base L0 : Nat} {N : List Nd} {F : Nat → Nat → Value} {m sz : Int} {fr : Bool} (h : SLm w base L0 N F m sz fr) {p : Nat} (hp : p ≤ N.length) {k : Nat} (hk : k < 8) : w.cell? ⟨blk L0 N p, 7 + k, none⟩ = some (F p k) ∧ w.frozen? ⟨blk L0 N p, 7 + k, none⟩ = false ∧ blk L0 N p < w.heap.size := by
  cases p with
  | zero =>
    have := h.hd
    refine ⟨?_, ?_, (Array.getElem?_eq_some_iff.1 this).1⟩
    · show w.cell? ⟨L0, 7 + k, none⟩ = _
      match k, hk with
      | 0, _ | 1, _ | 2, _ | 3, _ | 4, _ | 5, _ | 6, _ | 7, _ => simp [World.cell?, this, hdc]
    · show w.frozen? ⟨L0, 7 + k, none⟩ = _
      simp [World.frozen?, this]
  | succ p =>
    have := h.nd p (by omega)
    rw [blk_at (by omega)]
    refine ⟨?_, ?_, (Array.getElem?_eq_some_iff.1 this).1⟩
    · match k, hk with
      | 0, _ | 1, _ | 2, _ | 3, _ | 4, _ | 5, _ | 6, _ | 7, _ => simp [World.cell?, this, ndc]
    · simp [World.frozen?, this]
end Go.Proofs.Ytbeemkcdpmbhmaa
