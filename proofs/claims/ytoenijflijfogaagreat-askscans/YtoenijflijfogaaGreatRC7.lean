/- SS MG5 MG6 MG7 MG8, joined. -/
import Derived.Test.YtoenijflijfogaaGreatRC3
import Derived.Test.YtoenijflijfogaaGreatRC6
import Derived.Deep.MidRow
import Derived.BigQuiet
import Derived.Deep.QuietTactic
/- A struct is stored: the world behind it, by name. -/
namespace Go.Proofs.YtoenijflijfogaaGreat
open Go.RowKit

/-- W is w, but for some cells of one block. -/
structure StW (w W : World) (g off : Nat) (cur : Array Value) (T : TypeId) (vs : List Value) : Prop where
  b : ∀ lo, lo ≤ g → Below lo w W
  o : ∀ k, k ≠ g → W.heap[k]? = w.heap[k]?
  c : ∃ cur', W.heap[g]? = some (.cells cur' T) ∧ cur'.size = cur.size ∧ (∀ k, k < off ∨ off + vs.length ≤ k → cur'[k]? = cur[k]?) ∧ ∀ i (hi : i < vs.length), cur'[off + i]? = some vs[i]
theorem stW_cells (g : Nat) (T : TypeId) : ∀ (vs : List Value) (off : Nat) (w : World) (cur : Array Value), w.heap[g]? = some (.cells cur T) → off + vs.length ≤ cur.size → StW w (w.setCells g off vs) g off cur T vs
  | [], off, w, cur, hg, _ => ⟨fun lo _ => Below.refl _ _, fun _ _ => rfl, ⟨cur, hg, rfl, fun _ _ => rfl, fun i hi => by simp at hi⟩⟩
  | v :: r, off, w, cur, hg, hl => by
    have h1 := heap_setCell_same w g off cur T v hg
    have ih := stW_cells g T r (off + 1) (w.setCell ⟨g, off, none⟩ v) (cur.setIfInBounds off v) h1 (by simp at hl ⊢; omega)
    have e : w.setCells g off (v :: r) = (w.setCell ⟨g, off, none⟩ v).setCells g (off + 1) r := rfl
    rw [e]
    obtain ⟨cur', c1, c2, c3, c4⟩ := ih.c
    refine ⟨fun lo hlo => ((Below.refl _ _).setCell hlo _).trans (ih.b lo hlo), fun k hk => (ih.o k hk).trans (Below.heap_setCell _ _ _ _ hk), ⟨cur', c1, by simpa using c2, fun k hk => ?_, fun i hi => ?_⟩⟩
    · simp at hk
      rw [c3 k (by omega), Array.getElem?_setIfInBounds_ne (by omega)]
    · cases i with
      | zero =>
        have hs : off < cur.size := by simp at hl; omega
        rw [Nat.add_zero, c3 off (.inl (by omega))]
        simp [hs]
      | succ i =>
        have := c4 i (by simpa using hi)
        rw [show off + (i + 1) = off + 1 + i by omega, this]
        simp
section
variable {ops : Array Oper} {rest : List Oper} {op : Oper} {a : Act} {w : World} {Q : Exit → Act → World → Prop}
theorem there_of {g off n : Nat} {cur : Array Value} {T : TypeId} (hg : w.heap[g]? = some (.cells cur T)) (hl : off + n ≤ cur.size) : w.there g off n := fun j hj => ⟨by
  have : off + j < cur.size := by omega
  simp [World.cell?, hg, this], by simp [World.frozen?, hg]⟩
theorem wp_storeN {K : Act → World → Prop} (ty : TypeId) (x y : Operand) (ho : op.op = .store ty x y) (g off : Nat) (vs : List Value) (hx : a.eval x = .pointer (some ⟨g, off, none⟩)) (hy : a.eval y = .agg vs.toArray)
    (cur : Array Value) (T : TypeId) (hg : w.heap[g]? = some (.cells cur T)) (hl : off + vs.length ≤ cur.size) (hi : (Tryz.prog.info? ty).map (·.size) = some vs.length) (h1 : vs.toArray.all (·.oneCell') = true)
    (h : ∀ W, StW w W g off cur T vs → K (a.put op.dst undef) W) : op.wp Tryz.prog a w K Q :=
  wp_store_mid ty x y ho g off vs.toArray hx hy (there_of hg (by simpa using hl)) (by simpa using hi) h1 (h _ (stW_cells g T vs off w cur hg hl))
theorem wpList_storeN (hgd : op.guard = none) (ty : TypeId) (x y : Operand) (ho : op.op = .store ty x y) (g off : Nat) (vs : List Value) (hx : a.eval x = .pointer (some ⟨g, off, none⟩)) (hy : a.eval y = .agg vs.toArray)
    (cur : Array Value) (T : TypeId) (hg : w.heap[g]? = some (.cells cur T)) (hl : off + vs.length ≤ cur.size) (hi : (Tryz.prog.info? ty).map (·.size) = some vs.length) (h1 : vs.toArray.all (·.oneCell') = true)
    (h : ∀ W, StW w W g off cur T vs → wpList Tryz.prog ops Q rest (a.put op.dst undef) W) : wpList Tryz.prog ops Q (op :: rest) a w :=
  wpList_plain hgd fun _ hK => wp_storeN ty x y ho g off vs hx hy cur T hg hl hi h1 (fun W hW => hK _ _ (h W hW))
/-- The walk stands still here. -/
structure Stop (p : Prop) : Prop where
  out : p
theorem stop_store (ty : TypeId) (x y : Operand) (_ho : op.op = .store ty x y) (h : Stop (wpList Tryz.prog ops Q (op :: rest) a w)) : wpList Tryz.prog ops Q (op :: rest) a w := h.out
theorem Stop.of {p : Prop} (h : p) : Stop p := ⟨h⟩
end
end Go.Proofs.YtoenijflijfogaaGreat

/- The least entry is forgotten. -/
namespace Go.Proofs.YtoenijflijfogaaGreat
open Go.RowKit

theorem PtOk.heap {A B : World} {lo hh : Nat} {p : Pt} (h : PtOk A lo hh p) (hk : B.heap[p.g]? = A.heap[p.g]?) (hu : ∀ (k : Nat) (cs : Array Value) (fr : Nat × Nat), A.heap[k]? = some (Obj.cells cs 5 fr) → B.heap[k]? = some (Obj.cells cs 5 fr)) : PtOk B lo hh p := by
  obtain ⟨cur, h1, h2⟩ := h.ce
  exact ⟨h.g1, h.g2, h.n1, h.n2, h.n3, ⟨cur, hk.trans h1, h2⟩, fun x hx => own_kp (h.ky x hx) hu⟩
theorem typ_ne {A : World} {k m : Nat} {cs cs' : Array Value} {T T' : TypeId} {fr fr' : Nat × Nat} (h : A.heap[k]? = some (.cells cs T fr)) (h' : A.heap[m]? = some (.cells cs' T' fr')) (hT : T ≠ T') : k ≠ m := by
  rintro rfl
  rw [h] at h'
  simp at h'
  exact hT h'.2.1
theorem row_block {A : World} {lo sz g n cap : Nat} {T : TypeId} {xs : List Value} (h : A.ownsRow lo T sz (.slice (some ⟨g, 0, none⟩) n cap) n xs) : ∃ cur, A.heap[g]? = some (.cells cur T) := by
  rcases h.2 with ⟨q, _⟩ | ⟨g', c, cur, q, _, hw, _⟩
  · simp at q
  · simp at q
    obtain ⟨rfl, _⟩ := q
    exact ⟨cur, hw⟩
section
variable {w : World} {lo hh h gp cap : Nat} {p : Pt} {P : List Pt}
end
end Go.Proofs.YtoenijflijfogaaGreat

/- The contract of forget. -/
namespace Go.Proofs.YtoenijflijfogaaGreat
open Go.RowKit

theorem PtOk.fit {w : World} {lo hh : Nat} {p : Pt} (h : PtOk w lo hh p) : ∃ cur, w.heap[p.g]? = some (.cells cur 60) ∧ p.o + 7 ≤ cur.size := by
  obtain ⟨cur, h1, h2⟩ := h.ce
  refine ⟨cur, h1, ?_⟩
  have := h2 0 h.n1 6 (by decide)
  have h3 := (Array.getElem?_eq_some_iff.1 this).1
  omega
end Go.Proofs.YtoenijflijfogaaGreat

/- The contract of Next: the entries of the rows, one behind the other. -/
namespace Go.Proofs.YtoenijflijfogaaGreat
open Go.RowKit

theorem lePt_irrefl (x : Pt) : ¬ lePt x x := ltT_irrefl _
theorem nlePt_trans (x y c : Pt) (h1 : ¬ lePt y x) (h2 : ¬ lePt c y) : ¬ lePt c x := nltT_trans h1 h2
/-- The first part is the least one. -/
theorem HQ.first {p : Pt} {P : List Pt} (h : HQ lePt ptZ (p :: P) 0) : ∀ q ∈ P.map paP, ¬ ltP q (paP p) := by
  intro q hq
  obtain ⟨r, hr, rfl⟩ := List.mem_map.1 hq
  obtain ⟨i, hi, rfl⟩ := List.getElem_of_mem hr
  have := HQ.least h lePt_irrefl nlePt_trans (i + 1) (by simpa using hi)
  have h2 : ¬ lePt P[i] p := by simpa [List.getD, hi] using this
  exact h2
end Go.Proofs.YtoenijflijfogaaGreat

/- The contract of isRow. -/
namespace Go.Proofs.YtoenijflijfogaaGreat
open Go.RowKit

theorem pw_snoc {N : List Ks} {k : Nat} (hk : k < N.length) (h : (N.take k).Pairwise ltK) (hl : 0 < k → ltK (N[k - 1]'(by omega)) N[k]) : (N.take (k + 1)).Pairwise ltK := by
  rw [List.take_add_one, List.getElem?_eq_getElem hk]
  show (N.take k ++ [N[k]]).Pairwise ltK
  rw [List.pairwise_append]
  refine ⟨h, List.pairwise_singleton _ _, fun x hx y hy => ?_⟩
  obtain rfl : y = N[k] := by simpa using hy
  obtain ⟨i, hi, rfl⟩ := List.getElem_of_mem hx
  simp at hi
  rw [List.getElem_take]
  have h0 := hl (by omega)
  rcases Nat.lt_or_ge i (k - 1) with h1 | h1
  · have := List.pairwise_iff_getElem.1 h i (k - 1) (by simp; omega) (by simp; omega) h1
    rw [List.getElem_take, List.getElem_take] at this
    exact ltK_trans this h0
  · have e : i = k - 1 := by omega
    subst e; exact h0
theorem eReads_at {w : World} {v : Value} {L : List En} (h : EReads w v L) {k : Nat} (hk : k < L.length) {b off : Nat} {cap n : Nat} (hv : v = .slice (some ⟨b, off, none⟩) n cap) : ∃ kv, (∀ i (hi : i < 7), w.cell? ⟨b, off + k * 7 + i, none⟩ = some ((c7 ⟨kv, L[k].1, L[k].2⟩)[i]'hi)) ∧ Reads w kv L[k].1 ∧ CnOk L[k].2 := by
  obtain ⟨a, cap', hv', h1, h2, h3⟩ := h
  rw [hv] at hv'
  simp at hv'
  obtain ⟨rfl, rfl, rfl⟩ := hv'
  rcases h3 with rfl | ⟨b', off', h4, h5, h6⟩
  · simp at hk
  · simp at h4
    obtain ⟨rfl, rfl⟩ := h4
    obtain ⟨kv, g1, g2, g3⟩ := h6 k hk
    exact ⟨kv, fun i hi => by rw [show off + k * 7 + i = off + (7 * k + i) by omega]; exact g1 i hi, g2, g3⟩
theorem eReads_some {w : World} {v : Value} {L : List En} (h : EReads w v L) (h0 : 0 < L.length) : ∃ b off cap, v = .slice (some ⟨b, off, none⟩) L.length cap ∧ b < w.heap.size := by
  obtain ⟨a, cap, rfl, h1, h2, h3⟩ := h
  rcases h3 with rfl | ⟨b, off, rfl, h5, h6⟩
  · simp at h0
  · exact ⟨b, off, cap, rfl, h5⟩
end Go.Proofs.YtoenijflijfogaaGreat
