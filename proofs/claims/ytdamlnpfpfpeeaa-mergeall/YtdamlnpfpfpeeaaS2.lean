/- The order of bytes, and lists of entries in that order. -/
import Derived.Test.YtdamlnpfpfpeeaaA2
import Derived.Test.YtdamlnpfpfpeeaaC0
import Derived.Lib.Bytealg
namespace Go.Proofs.Ytdamlnpfpfpeeaa
open Go.Lib

abbrev Ks := List UInt8
/-- Bytes stand ahead of others. -/
def ltK (a b : Ks) : Prop := compareBytes a b = -1
instance (a b : Ks) : Decidable (ltK a b) := inferInstanceAs (Decidable (_ = _))
theorem cmp_three : ∀ a b : Ks, compareBytes a b = -1 ∨ compareBytes a b = 0 ∨ compareBytes a b = 1
  | [], [] => by simp [compareBytes]
  | [], _ :: _ => by simp [compareBytes]
  | _ :: _, [] => by simp [compareBytes]
  | a :: l1, b :: l2 => by
    unfold compareBytes
    split
    · simp
    · split
      · simp
      · exact cmp_three l1 l2
theorem u8_tri {a b : UInt8} (h1 : ¬ a < b) (h2 : ¬ b < a) : a = b := by
  apply UInt8.toNat.inj
  have h1' : ¬ a.toNat < b.toNat := h1
  have h2' : ¬ b.toNat < a.toNat := h2
  omega
theorem cmp_refl : ∀ a : Ks, compareBytes a a = 0
  | [] => rfl
  | a :: l1 => by
    unfold compareBytes
    have h : ¬ a < a := fun h => Nat.lt_irrefl _ (show a.toNat < a.toNat from h)
    rw [if_neg h, if_neg h]; exact cmp_refl l1
theorem cmp_zero : ∀ {a b : Ks}, compareBytes a b = 0 → a = b
  | [], [], _ => rfl
  | [], _ :: _, h => by simp [compareBytes] at h
  | _ :: _, [], h => by simp [compareBytes] at h
  | a :: l1, b :: l2, h => by
    unfold compareBytes at h
    by_cases h1 : a < b
    · rw [if_pos h1] at h; simp at h
    · rw [if_neg h1] at h
      by_cases h2 : b < a
      · rw [if_pos h2] at h; simp at h
      · rw [if_neg h2] at h
        rw [u8_tri h1 h2, cmp_zero h]
theorem cmp_swap : ∀ a b : Ks, compareBytes b a = - compareBytes a b
  | [], [] => rfl
  | [], _ :: _ => rfl
  | _ :: _, [] => rfl
  | a :: l1, b :: l2 => by
    unfold compareBytes
    by_cases h1 : a < b
    · have h2 : ¬ b < a := fun h => by have h1' : a.toNat < b.toNat := h1; have h' : b.toNat < a.toNat := h; omega
      rw [if_pos h1, if_neg h2, if_pos h1]; rfl
    · by_cases h2 : b < a
      · rw [if_pos h2, if_neg h1, if_pos h2]
      · rw [if_neg h1, if_neg h2, if_neg h2, if_neg h1]; exact cmp_swap l1 l2
theorem ltK_trans : ∀ {a b c : Ks}, ltK a b → ltK b c → ltK a c
  | [], [], _, h, _ => by simp [ltK, compareBytes] at h
  | [], _ :: _, [], _, h => by simp [ltK, compareBytes] at h
  | [], _ :: _, _ :: _, _, _ => by simp [ltK, compareBytes]
  | _ :: _, [], _, h, _ => by simp [ltK, compareBytes] at h
  | _ :: _, _ :: _, [], _, h => by simp [ltK, compareBytes] at h
  | a :: l1, b :: l2, c :: l3, h1, h2 => by
    unfold ltK compareBytes at h1 h2 ⊢
    by_cases p1 : a < b
    · by_cases q1 : b < c
      · have : a < c := by have p' : a.toNat < b.toNat := p1; have q' : b.toNat < c.toNat := q1; exact (show a.toNat < c.toNat by omega)
        rw [if_pos this]
      · rw [if_neg q1] at h2
        by_cases q2 : c < b
        · rw [if_pos q2] at h2; simp at h2
        · have : b = c := u8_tri q1 q2
          subst this
          rw [if_pos p1]
    · rw [if_neg p1] at h1
      by_cases p2 : b < a
      · rw [if_pos p2] at h1; simp at h1
      · have : a = b := u8_tri p1 p2
        subst this
        rw [if_neg p2] at h1
        by_cases q1 : a < c
        · rw [if_pos q1]
        · rw [if_neg q1] at h2 ⊢
          by_cases q2 : c < a
          · rw [if_pos q2] at h2; simp at h2
          · rw [if_neg q2] at h2 ⊢
            exact ltK_trans h1 h2
theorem ltK_irrefl (a : Ks) : ¬ ltK a a := by unfold ltK; rw [cmp_refl]; decide
theorem ltK_ne {a b : Ks} (h : ltK a b) : a ≠ b := fun e => by subst e; exact ltK_irrefl _ h
theorem ltK_asymm {a b : Ks} (h : ltK a b) : ¬ ltK b a := fun h2 => ltK_irrefl _ (ltK_trans h h2)
theorem ltK_tri (a b : Ks) : ltK a b ∨ a = b ∨ ltK b a := by
  rcases cmp_three a b with h | h | h
  · exact .inl h
  · exact .inr (.inl (cmp_zero h))
  · right; right; unfold ltK; rw [cmp_swap a b, h]
theorem not_ltK {a b : Ks} : ¬ ltK a b ↔ a = b ∨ ltK b a := by
  constructor
  · intro h; rcases ltK_tri a b with h1 | h1 | h1
    · exact absurd h1 h
    · exact .inl h1
    · exact .inr h1
  · rintro (rfl | h)
    · exact ltK_irrefl _
    · exact ltK_asymm h
theorem cmp_ge {a b : Ks} : (0 ≤ compareBytes a b) ↔ ¬ ltK a b := by
  unfold ltK; rcases cmp_three a b with h | h | h <;> rw [h] <;> decide

/-- How many of a rising list's keys stand ahead of a key. -/
def plK (N : List Ks) (k : Ks) : Nat := (N.takeWhile fun x => decide (ltK x k)).length
theorem plK_le (N : List Ks) (k : Ks) : plK N k ≤ N.length := by
  unfold plK; exact (List.takeWhile_sublist _).length_le
theorem plK_lt {N : List Ks} {k : Ks} {i : Nat} (h : i < plK N k) (hi : i < N.length) : ltK N[i] k := by
  induction N generalizing i with
  | nil => simp at hi
  | cons x N ih =>
    by_cases hx : ltK x k
    · have e : plK (x :: N) k = plK N k + 1 := by unfold plK; rw [List.takeWhile_cons_of_pos (by simpa using hx)]; rfl
      cases i with
      | zero => exact hx
      | succ i => exact ih (by omega) (by simpa using hi)
    · have e : plK (x :: N) k = 0 := by unfold plK; rw [List.takeWhile_cons_of_neg (by simpa using hx)]; rfl
      omega
theorem plK_ge {N : List Ks} {k : Ks} (hs : N.Pairwise ltK) {i : Nat} (h : plK N k ≤ i) (hi : i < N.length) : ¬ ltK N[i] k := by
  induction N generalizing i with
  | nil => simp at hi
  | cons x N ih =>
    rw [List.pairwise_cons] at hs
    by_cases hx : ltK x k
    · have e : plK (x :: N) k = plK N k + 1 := by unfold plK; rw [List.takeWhile_cons_of_pos (by simpa using hx)]; rfl
      cases i with
      | zero => omega
      | succ i =>
        rw [List.getElem_cons_succ]
        exact ih hs.2 (by omega) (by simpa using hi)
    · cases i with
      | zero => exact hx
      | succ i =>
        rw [List.getElem_cons_succ]
        intro h2
        have hm : N[i]'(by simpa using hi) ∈ N := List.getElem_mem _
        exact hx (ltK_trans (hs.1 _ hm) h2)
end Go.Proofs.Ytdamlnpfpfpeeaa
