/- MG4, joined. -/
import Derived.Test.YtoenijflijfogaaGreatRC5
/- A part sinks. -/
namespace Go.Proofs.YtoenijflijfogaaGreat
open Go.RowKit

/-- What calls on a heap leave alone: what lies below, what was made behind it, and all bytes. -/
structure Fr (lo hh : Nat) (A B : World) : Prop where
  b : Below lo A B
  h : ∀ k, hh ≤ k → k < A.heap.size → B.heap[k]? = A.heap[k]?
  u : ∀ (k : Nat) (cs : Array Value) (fr : Nat × Nat), A.heap[k]? = some (Obj.cells cs 5 fr) → B.heap[k]? = some (Obj.cells cs 5 fr)
theorem Fr.refl (lo hh : Nat) (A : World) : Fr lo hh A A := ⟨Below.refl _ _, fun _ _ _ => rfl, fun _ _ _ h => h⟩
theorem Fr.trans {lo hh : Nat} {A B C : World} (h : Fr lo hh A B) (k : Fr lo hh B C) : Fr lo hh A C :=
  ⟨h.b.trans k.b, fun i h1 h2 => (k.h i h1 (Nat.lt_of_lt_of_le h2 h.b.size)).trans (h.h i h1 h2), fun i cs fr q => k.u i cs fr (h.u i cs fr q)⟩
theorem Fr.of_below {lo hh : Nat} {A B : World} (h : Below A.heap.size A B) (hl : lo ≤ A.heap.size) : Fr lo hh A B :=
  ⟨h.mono hl, fun k _ hk => h.block k hk, fun k _ _ q => (h.block k (Array.getElem?_eq_some_iff.1 q).1).trans q⟩
theorem Fr.own {lo hh base : Nat} {A B : World} {v : Value} {l : List UInt8} (h : Fr lo hh A B) (ho : Own A base v l) : Own B base v l := own_kp ho h.u
theorem PtOk.other {A B : World} {lo hh gp : Nat} {p : Pt} (h : PtOk A lo hh p) (hk : ∀ k, k ≠ gp → B.heap[k]? = A.heap[k]?) {cs : Array Value} {T : TypeId} {fr : Nat × Nat} (hgp : A.heap[gp]? = some (.cells cs T fr)) (hT : T ≠ 60) (hU : T ≠ 5) : PtOk B lo hh p := by
  obtain ⟨cur, h1, h2⟩ := h.ce
  have hne : ∀ (k : Nat) (cs' : Array Value) (T' : TypeId) (fr' : Nat × Nat), T' ≠ T → A.heap[k]? = some (.cells cs' T' fr') → k ≠ gp := by
    rintro k cs' T' fr' hT' hk' rfl
    rw [hgp] at hk'
    simp at hk'
    exact hT' hk'.2.1.symm
  exact ⟨h.g1, h.g2, h.n1, h.n2, h.n3, ⟨cur, (hk _ (hne _ _ _ _ (Ne.symm hT) h1)).trans h1, h2⟩, fun x hx => own_kp (h.ky x hx) (fun k cs' fr' q => (hk _ (hne _ _ _ _ (Ne.symm hU) q)).trans q)⟩
end Go.Proofs.YtoenijflijfogaaGreat
