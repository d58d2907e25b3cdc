/- TL3 TN7 TLb TLo, joined. -/
import Derived.Test.YtlpjdfgknmfmnaaTF43
import Derived.Test.YtlpjdfgknmfmnaaTF44
import Derived.Test.YtlpjdfgknmfmnaaTF45
/- law10: a table that is turned in one byte is none. -/
namespace Go.Proofs.Ytlpjdfgknmfmnaa
open Go.RowKit

theorem xz {c d : Nat} (h : c ^^^ d = 0) : c = d := by
  have := congrArg (· ^^^ d) h
  simpa [Nat.xor_assoc] using this
/-- Of the same length, and alike but perhaps at one place. -/
def Di (i : Nat) (a b : List UInt8) : Prop := a.length = b.length ∧ ∀ k, k ≠ i → a[k]? = b[k]?
theorem Di.left {i : Nat} {a b c d : List UInt8} (h : Di i (a ++ b) (c ++ d)) (hl : a.length = c.length) : Di i a c := by
  refine ⟨hl, fun k hk => ?_⟩
  by_cases hlt : k < a.length
  · have := h.2 k hk
    rw [List.getElem?_append_left hlt, List.getElem?_append_left (by omega)] at this
    exact this
  · rw [List.getElem?_eq_none (by omega), List.getElem?_eq_none (by omega)]
theorem Di.right {i : Nat} {a b c d : List UInt8} (h : Di i (a ++ b) (c ++ d)) (hl : a.length = c.length) (hi : a.length ≤ i) : Di (i - a.length) b d := by
  refine ⟨?_, fun k hk => ?_⟩
  · have := h.1; simp only [List.length_append] at this; omega
  · have := h.2 (a.length + k) (by omega)
    rw [List.getElem?_append_right (by omega), List.getElem?_append_right (by omega), Nat.add_sub_cancel_left, ← hl, Nat.add_sub_cancel_left] at this
    exact this
theorem Di.one {i : Nat} {a b : List UInt8} (h : Di i a b) (hne : a ≠ b) : ∃ p q x y, a = p ++ x :: q ∧ b = p ++ y :: q := by
  by_cases hi : i < a.length
  · have hi' : i < b.length := by have := h.1; omega
    refine ⟨a.take i, a.drop (i + 1), a[i], b[i], ?_, ?_⟩
    · rw [← List.drop_eq_getElem_cons hi, List.take_append_drop]
    · have e1 : a.take i = b.take i := by
        apply List.ext_getElem?
        intro k
        rw [List.getElem?_take, List.getElem?_take]
        by_cases hk : k < i
        · rw [if_pos hk, if_pos hk]; exact h.2 k (by omega)
        · rw [if_neg hk, if_neg hk]
      have e2 : a.drop (i + 1) = b.drop (i + 1) := by
        apply List.ext_getElem?
        intro k
        rw [List.getElem?_drop, List.getElem?_drop]
        exact h.2 _ (by omega)
      rw [e1, e2, ← List.drop_eq_getElem_cons hi', List.take_append_drop]
  · exfalso
    apply hne
    apply List.ext_getElem?
    intro k
    by_cases hk : k = i
    · subst hk; rw [List.getElem?_eq_none (by omega), List.getElem?_eq_none (by have := h.1; omega)]
    · exact h.2 k hk
end Go.Proofs.Ytlpjdfgknmfmnaa

/- law10's alive. -/
namespace Go.Proofs.Ytlpjdfgknmfmnaa
open Go.RowKit

theorem reads_97 (w : World) : Reads (w.alloc (.cells #[.int .u8 97] 5)) (.slice (some ⟨w.heap.size, 0, none⟩) 1 1) [97] :=
  .inr ⟨w.heap.size, 0, 1, rfl, by simp, by simp, by simp [maxLen], by simp, fun j hj => by
    have : j = 0 := by simp at hj; omega
    subst this
    exact cell_rw (heap_alloc_new w _) 0 (by simp)⟩
set_option maxRecDepth 100000 in
set_option maxHeartbeats 2000000 in
theorem alive10_any (w : World) : Calls Try.prog 6 #[] w fun e w' => e = .returned (.bool true) ∧ Below w.heap.size w w' := by
  go_enter Try.func6, Try.ntmps6
  go_wp2_with fail
  refine (twrite_nil w).mono ?_
  rintro e w1 ⟨v1, rfl, ho1, hb1⟩
  have HB1 : Hid (Below w.heap.size w w1) := hb1
  have hOp := topen_e42 v1 w1 ho1.reads
  obtain ⟨a1, c1, hv1, _⟩ := ho1.form
  subst hv1
  have e4 : (frm [] ++ frm [6, 0] ++ frm [0, 0, 0, 0, 0, 0, 0, 0, 0, 0, 0, 0, 0, 0, 0, 0]).length = 42 := e42_len
  rw [e4] at hOp ⊢
  have HOp : Hid (Calls Try.prog 10 #[.slice a1 42 c1] w1 _) := hOp
  clear ho1 hb1 hOp e4
  go_wp2_with fail
  refine HOp.out.mono ?_
  clear HOp
  rintro e w2 ⟨B, fv, rfl, hte, hb2⟩
  have HT2 : Hid (TE w2 B fv) := hte
  have HB2 : Hid (Below w.heap.size w w2) := HB1.out.trans (hb2.mono HB1.out.size)
  clear hte hb2
  go_wp2_with fail
  refine (topen_nil w2).mono ?_
  rintro e w3 ⟨rfl, hb3⟩
  have HB3 : Hid (Below w.heap.size w w3) := HB2.out.trans (hb3.mono HB2.out.size)
  have HT3 : Hid (TE w3 B fv) := HT2.out.below hb3
  clear hb3
  go_wp2_with fail
  refine (tlen_te HT3.out).mono ?_
  rintro e w4 ⟨rfl, rfl⟩
  obtain ⟨wm, hcv, hrm, hbl⟩ := run_mark (w := w4.alloc (.cells #[.int .u8 97] 5)) (g := w4.heap.size) (by unfold World.shape?; rw [heap_alloc_new]; rfl)
  have HBm : Hid (Below w4.heap.size w4 wm) := ((Below.refl _ _).alloc (Nat.le_refl _) _).trans (hbl _ (Nat.le_refl _))
  have HMy : Hid (Calls Try.prog 14 #[.pointer (some ⟨B, 0, none⟩), .slice (some ⟨w4.heap.size, 0, none⟩) 1 1] wm _) := tmay_te (HT3.out.below HBm.out) _ [97] ((reads_97 w4).rm hrm) my_a
  clear hrm hbl
  go_wp2_with fail
  refine HMy.out.mono ?_
  rintro e w5 ⟨rfl, hb5⟩
  have HB5 : Hid (Below w.heap.size w w5) := (HB3.out.trans (HBm.out.mono HB3.out.size)).trans (hb5.mono (Nat.le_trans HB3.out.size HBm.out.size))
  clear hb5 HMy
  go_wp2_with fail
  go_ret
  exact ⟨rfl, HB5.out⟩
end Go.Proofs.Ytlpjdfgknmfmnaa

/- TableBack's walk. -/
namespace Go.Proofs.Ytlpjdfgknmfmnaa
open Go.RowKit

end Go.Proofs.Ytlpjdfgknmfmnaa

/- TableOnce's walk. -/
namespace Go.Proofs.Ytlpjdfgknmfmnaa
open Go.RowKit

end Go.Proofs.Ytlpjdfgknmfmnaa
