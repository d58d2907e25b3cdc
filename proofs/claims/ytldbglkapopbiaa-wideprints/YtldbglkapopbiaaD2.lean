/- Numbers told by decimal digits: plain facts, no program in sight. -/
import Derived.Test.YtldbglkapopbiaaD1
namespace Go.Proofs.Ytldbglkapopbiaa
open Go.RowKit
/-- The number that bytes tell, each a digit. -/
def numOf (l : List UInt8) : Nat := l.foldl (fun a c => a * 10 + (c.toNat - 48)) 0
def numGo (a : Nat) (l : List UInt8) : Nat := l.foldl (fun a c => a * 10 + (c.toNat - 48)) a
theorem numGo_le (l : List UInt8) : ∀ a, a ≤ numGo a l := by
  induction l with
  | nil => intro a; exact Nat.le_refl _
  | cons c l ih =>
    intro a
    have h := ih (a * 10 + (c.toNat - 48))
    have e : numGo a (c :: l) = numGo (a * 10 + (c.toNat - 48)) l := rfl
    omega
theorem numOf_append (l m : List UInt8) : numOf (l ++ m) = numGo (numOf l) m := by simp [numOf, numGo, List.foldl_append]
theorem numOf_snoc (l : List UInt8) (c : UInt8) : numOf (l ++ [c]) = numOf l * 10 + (c.toNat - 48) := by simp [numOf, List.foldl_append]
theorem numOf_take_le (l : List UInt8) (k : Nat) : numOf (l.take k) ≤ numOf l := by
  have e : numOf l = numGo (numOf (l.take k)) (l.drop k) := by rw [← numOf_append, List.take_append_drop]
  rw [e]; exact numGo_le _ _
theorem take_snocB (s : ByteArray) (k : Nat) (h : k < s.size) : s.data.toList.take (k + 1) = s.data.toList.take k ++ [s[k]] := by
  rw [List.take_succ_eq_append_getElem (by simpa using h)]; rfl
/-- Each byte is a digit. -/
def AllDigits (l : List UInt8) : Prop := ∀ c ∈ l, 48 ≤ c.toNat ∧ c.toNat ≤ 57
theorem get_mem (s : ByteArray) (k : Nat) (h : k < s.size) : s[k] ∈ s.data.toList := by
  have : s[k] = s.data.toList[k]'(by simpa using h) := rfl
  rw [this]; exact List.getElem_mem _
end Go.Proofs.Ytldbglkapopbiaa
