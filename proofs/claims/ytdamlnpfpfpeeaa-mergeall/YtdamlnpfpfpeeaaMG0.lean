/- Heaps, as lists: what sinking does. -/
import Derived.Test.YtdamlnpfpfpeeaaS2
namespace Go.Proofs.Ytdamlnpfpfpeeaa

section
variable {α : Type}
theorem getD_set' (P : List α) (i j : Nat) (x z : α) (h : i < P.length) : (P.set i x).getD j z = if i = j then x else P.getD j z := by
  rw [List.getD_eq_getElem?_getD, List.getElem?_set]
  by_cases e : i = j
  · rw [if_pos e, if_pos e, if_pos h]; rfl
  · rw [if_neg e, if_neg e, ← List.getD_eq_getElem?_getD]
/-- Two places change. -/
def swp (z : α) (P : List α) (a b : Nat) : List α := (P.set a (P.getD b z)).set b (P.getD a z)
theorem swp_len (z : α) (P : List α) (a b : Nat) : (swp z P a b).length = P.length := by simp [swp]
theorem swp_at (z : α) {P : List α} {a b : Nat} (ha : a < P.length) (hb : b < P.length) (i : Nat) : (swp z P a b).getD i z = if b = i then P.getD a z else if a = i then P.getD b z else P.getD i z := by
  unfold swp
  rw [getD_set' _ _ _ _ _ (by simpa using hb), getD_set' _ _ _ _ _ ha]
theorem getD_get {P : List α} {i : Nat} (z : α) (h : i < P.length) : P.getD i z = P[i] := by simp [List.getD, h]
theorem swp_perm (z : α) {P : List α} {a b : Nat} (ha : a < P.length) (hb : b < P.length) : (swp z P a b).Perm P := by
  unfold swp
  rw [getD_get z ha, getD_get z hb]
  exact List.set_set_perm ha hb
/-- A heap from a place on. -/
def HQ (lt : α → α → Prop) (z : α) (P : List α) (s : Nat) : Prop := ∀ i, i < P.length → 0 < i → s ≤ (i - 1) / 2 → ¬ lt (P.getD i z) (P.getD ((i - 1) / 2) z)
/-- A heap from a place on, but for one that sinks. -/
structure HI (lt : α → α → Prop) (z : α) (P : List α) (s t : Nat) : Prop where
  i1 : ∀ i, i < P.length → 0 < i → s ≤ (i - 1) / 2 → (i - 1) / 2 ≠ t → ¬ lt (P.getD i z) (P.getD ((i - 1) / 2) z)
  i2 : s < t → s ≤ (t - 1) / 2 → ∀ c, c < P.length → 0 < c → (c - 1) / 2 = t → ¬ lt (P.getD c z) (P.getD ((t - 1) / 2) z)
  i3 : s ≤ t
theorem HI.start {lt : α → α → Prop} {z : α} {P : List α} {s : Nat} (h : HQ lt z P (s + 1)) : HI lt z P s s :=
  ⟨fun i h1 h2 h3 h4 => h i h1 h2 (by omega), fun h => absurd h (Nat.lt_irrefl _), Nat.le_refl _⟩
theorem HI.stop {lt : α → α → Prop} {z : α} {P : List α} {s t : Nat} (h : HI lt z P s t) (hc : ∀ c, c < P.length → 0 < c → (c - 1) / 2 = t → ¬ lt (P.getD c z) (P.getD t z)) : HQ lt z P s := by
  intro i h1 h2 h3
  by_cases e : (i - 1) / 2 = t
  · rw [e]; exact hc i h1 h2 e
  · exact h.i1 i h1 h2 h3 e
theorem HI.step {lt : α → α → Prop} {z : α} {P : List α} {s t b : Nat} (has : ∀ x y, lt x y → ¬ lt y x) (h : HI lt z P s t) (hb : b < P.length) (hbt : b = 2 * t + 1 ∨ b = 2 * t + 2)
    (hlt : lt (P.getD b z) (P.getD t z)) (hsib : ∀ c, c < P.length → (c = 2 * t + 1 ∨ c = 2 * t + 2) → c ≠ b → ¬ lt (P.getD c z) (P.getD b z)) : HI lt z (swp z P t b) s b := by
  have ht : t < P.length := by omega
  have h3 := h.i3
  refine ⟨fun i h1 h2 h3 h4 => ?_, fun _ _ c h1 h2 h3 => ?_, by omega⟩
  · rw [swp_len] at h1
    rw [swp_at z ht hb, swp_at z ht hb]
    by_cases e1 : b = i
    · subst e1
      rw [if_pos rfl, if_neg (by omega), if_pos (by omega)]
      exact has _ _ hlt
    · rw [if_neg e1]
      by_cases e2 : t = i
      · subst e2
        rw [if_pos rfl, if_neg (by omega), if_neg (by omega)]
        have h5 : s < t := by omega
        exact h.i2 h5 h3 b hb (by omega) (by omega)
      · rw [if_neg e2, if_neg (fun e => h4 e.symm)]
        by_cases e3 : t = (i - 1) / 2
        · rw [if_pos e3]
          exact hsib i h1 (by omega) (fun e => e1 e.symm)
        · rw [if_neg e3]
          exact h.i1 i h1 h2 h3 (fun e => e3 e.symm)
  · rw [swp_len] at h1
    rw [swp_at z ht hb, swp_at z ht hb, if_neg (by omega), if_neg (by omega), if_neg (by omega), if_pos (by omega)]
    have := h.i1 c h1 h2 (by omega) (by omega)
    rw [h3] at this
    exact this
theorem HQ.least {lt : α → α → Prop} {z : α} {P : List α} (h : HQ lt z P 0) (hir : ∀ x, ¬ lt x x) (htr : ∀ x y c, ¬ lt y x → ¬ lt c y → ¬ lt c x) : ∀ i, i < P.length → ¬ lt (P.getD i z) (P.getD 0 z) := by
  intro i
  induction i using Nat.strongRecOn with
  | _ i ih =>
    intro hi
    rcases Nat.eq_zero_or_pos i with rfl | h0
    · exact hir _
    · exact htr _ _ _ (ih ((i - 1) / 2) (by omega) (by omega)) (h i hi h0 (Nat.zero_le _))
end
end Go.Proofs.Ytdamlnpfpfpeeaa
