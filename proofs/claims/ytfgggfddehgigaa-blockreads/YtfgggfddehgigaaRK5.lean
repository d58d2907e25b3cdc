/- What the reference's Read does, in plain words. -/
import Derived.Test.YtfgggfddehgigaaRK4
namespace Go.Proofs.Ytfgggfddehgigaa
open Go.RowKit

/-- One pair at the front of bytes, as the reference reads it, and what is left. -/
def st3 (L : List UInt8) (A : Ks) : Option (Pr × List UInt8) :=
  match th3 L with
  | none => none
  | some (s, m, v, t) => if A.length < s ∨ (L.drop t).length < m ∨ (L.drop t).length - m < v then none else some ((A.take s ++ (L.drop t).take m, ((L.drop t).drop m).take v), (L.drop t).drop (m + v))
theorem st3_pb {k : Nat} {A : Ks} {x : Pr} (hx : okP x) (r : List UInt8) : st3 (pb k A x ++ r) A = some (x, r) := by
  obtain ⟨h1, h2⟩ := hx
  have hs := svd_le k A x.1
  have ht := svd_take k A x.1
  unfold st3 pb
  generalize svd k A x.1 = s at *
  have e : sh s ++ (sh (x.1.length - s) ++ (sh x.2.length ++ (x.1.drop s ++ x.2))) ++ r = sh s ++ (sh (x.1.length - s) ++ (sh x.2.length ++ (x.1.drop s ++ x.2 ++ r))) := by simp only [List.append_assoc]
  rw [e, th3_of (by omega) (by omega) h2]
  have d : (sh s ++ (sh (x.1.length - s) ++ (sh x.2.length ++ (x.1.drop s ++ x.2 ++ r)))).drop ((sh s).length + (sh (x.1.length - s)).length + (sh x.2.length).length) = x.1.drop s ++ x.2 ++ r := by
    rw [Nat.add_assoc, ← List.drop_drop, List.drop_left, ← List.drop_drop, List.drop_left, List.drop_left]
  simp only [d]
  have l1 : (x.1.drop s).length = x.1.length - s := by simp
  rw [if_neg (by simp; omega)]
  have e1 : (x.1.drop s ++ x.2 ++ r).take (x.1.length - s) = x.1.drop s := by rw [List.append_assoc, ← l1, List.take_left]
  have e2 : (x.1.drop s ++ x.2 ++ r).drop (x.1.length - s) = x.2 ++ r := by rw [List.append_assoc, ← l1, List.drop_left]
  rw [← List.drop_drop, e1, e2, List.take_left, List.drop_left, ht, List.take_append_drop]
/-- What holds at each round. -/
def Inv (b : List UInt8) (M : List Pr) (L : List UInt8) : Prop := ∀ l, rdB b = some l → M.length ≤ l.length ∧ M = l.take M.length ∧ L = wbF M.length (lastK [] M) (l.drop M.length)
theorem Inv.start (b : List UInt8) : Inv b [] b := by
  intro l h
  refine ⟨by simp, by simp, ?_⟩
  exact (rdB_back h).2.symm
theorem Inv.cons {b : List UInt8} {M : List Pr} {L : List UInt8} (h : Inv b M L) (hL : L ≠ []) {l : List Pr} (hl : rdB b = some l) : ∃ x, ∃ hlt : M.length < l.length, x = l[M.length] ∧ okP x ∧ L = pb M.length (lastK [] M) x ++ wbF (M.length + 1) x.1 (l.drop (M.length + 1)) := by
  obtain ⟨h1, h2, h3⟩ := h l hl
  have hlt : M.length < l.length := by
    rcases Nat.lt_or_ge M.length l.length with h | h
    · exact h
    · rw [List.drop_eq_nil_of_le h] at h3; exact absurd h3 hL
  refine ⟨l[M.length], hlt, rfl, (mb_zero.1 (rdB_back hl).1).2.1 _ (List.getElem_mem hlt), ?_⟩
  rw [List.drop_eq_getElem_cons hlt, wbF] at h3
  exact h3
theorem Inv.fail {b : List UInt8} {M : List Pr} {L : List UInt8} (h : Inv b M L) (hL : L ≠ []) (hs : st3 L (lastK [] M) = none) : rdB b = none := by
  cases hr : rdB b with
  | none => rfl
  | some l =>
    obtain ⟨x, hlt, _, hx, e⟩ := h.cons hL hr
    rw [e, st3_pb hx] at hs
    cases hs
theorem Inv.step {b : List UInt8} {M : List Pr} {L L' : List UInt8} {p : Pr} (h : Inv b M L) (hL : L ≠ []) (hs : st3 L (lastK [] M) = some (p, L')) : Inv b (M ++ [p]) L' := by
  intro l hr
  obtain ⟨x, hlt, hxe, hx, e⟩ := h.cons hL hr
  obtain ⟨_, h2, _⟩ := h l hr
  rw [e, st3_pb hx] at hs
  obtain ⟨rfl, rfl⟩ : x = p ∧ wbF (M.length + 1) x.1 (l.drop (M.length + 1)) = L' := by simpa using hs
  refine ⟨by simp; omega, ?_, ?_⟩
  · rw [List.length_append, List.length_singleton, List.take_add_one, List.getElem?_eq_getElem hlt, ← h2, ← hxe]; rfl
  · rw [List.length_append, List.length_singleton, lastK_snoc]
theorem Inv.done {b : List UInt8} {M : List Pr} {L : List UInt8} (h : Inv b M L) (hL : L = [] ∨ 4096 < M.length) (hn : ¬ (mbF M = 0 ∧ wrB M = b)) : rdB b = none := by
  cases hr : rdB b with
  | none => rfl
  | some l =>
    exfalso
    obtain ⟨h1, h2, h3⟩ := h l hr
    obtain ⟨k1, k2⟩ := rdB_back hr
    rcases hL with hL | hL
    · have hlen : l.length ≤ M.length := by
        rcases Nat.lt_or_ge M.length l.length with h | h
        · rw [List.drop_eq_getElem_cons h, wbF, hL] at h3
          have h4 := congrArg List.length h3
          rw [List.length_append, pb_len] at h4
          have := sh_pos (svd M.length (lastK [] M) l[M.length].1)
          simp at h4
          omega
        · exact h
      rw [List.take_of_length_le hlen] at h2
      apply hn
      rw [h2]
      refine ⟨k1, ?_⟩
      unfold wrB; rw [if_pos k1]; exact k2
    · have := (mb_zero.1 k1).1
      omega
theorem Inv.good {b : List UInt8} {M : List Pr} (h : mbF M = 0 ∧ wrB M = b) : rdB b = some M := by
  have e : wrB M = wb M := by unfold wrB; rw [if_pos h.1]
  rw [← h.2, e]
  exact rdB_wb h.1
theorem st3_len {L L' : List UInt8} {A : Ks} {p : Pr} (h : st3 L A = some (p, L')) (hL : L ≠ []) : L'.length < L.length := by
  unfold st3 at h
  cases ht : th3 L with
  | none => rw [ht] at h; cases h
  | some q =>
    obtain ⟨s, m, v, t⟩ := q
    have := th3_back ht
    rw [ht] at h
    simp only at h
    split at h
    · cases h
    · simp at h
      rw [← h.2]
      have : 0 < L.length := List.length_pos_iff.2 hL
      simp; omega
end Go.Proofs.Ytfgggfddehgigaa
