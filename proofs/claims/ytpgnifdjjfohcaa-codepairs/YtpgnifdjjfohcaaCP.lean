/- The walk of CodePairs. -/
import Derived.Test.YtpgnifdjjfohcaaC7
import Derived.SizedLaws
import Derived.Deep.Cut
import Derived.Deep.DeepCutAuto
namespace Go.Proofs.Ytpgnifdjjfohcaa
open Go.RowKit

theorem tx_pos (l : List UInt8) : 0 < (tx l).length := by unfold tx; simp
theorem tx_len (s : ByteArray) : (tx s.data.toList).length ≤ 2 * s.size + 2 := by
  have h := txb_len s.data.toList
  have e : s.data.toList.length = s.size := Array.length_toList
  unfold tx; simp; omega
theorem less_irr (l : List UInt8) : Op.bytesLess l l = false := by
  induction l with
  | nil => rfl
  | cons x l ih => rw [less_same]; exact ih
theorem tx_app (l m : List UInt8) : tx l ++ m = txb l ++ 0 :: 1 :: m := by unfold tx; simp
theorem tx_less0 (s t : List UInt8) : Op.bytesLess (tx s) (tx t) = Op.bytesLess s t := by
  have h := tx_less s t [] []
  have e1 : txb s ++ 0 :: 1 :: [] = tx s := rfl
  have e2 : txb t ++ 0 :: 1 :: [] = tx t := rfl
  rw [e1, e2] at h
  rw [h]
  by_cases hs : s = t
  · rw [if_pos hs, hs]; exact (less_irr _).symm
  · rw [if_neg hs]
theorem pairs_less (a b c d : ByteArray) : Op.bytesLess (tx a.data.toList ++ tx b.data.toList) (tx c.data.toList ++ tx d.data.toList) = (Op.bytesLess a.toList c.toList || ((a.toList == c.toList) && Op.bytesLess b.toList d.toList)) := by
  simp only [ByteArray.toList_eq]
  rw [tx_app, tx_app, tx_less]
  by_cases h : a.data.toList = c.data.toList
  · rw [if_pos h, h, less_irr, tx_less0]; simp
  · rw [if_neg h, beq_eq_false_iff_ne.2 h]; simp
theorem pairs_eq (a b c d : ByteArray) : (tx a.data.toList ++ tx b.data.toList == tx c.data.toList ++ tx d.data.toList) = ((a.toList == c.toList) && (b.toList == d.toList)) := by
  simp only [ByteArray.toList_eq]
  by_cases h : a.data.toList = c.data.toList
  · by_cases h2 : b.data.toList = d.data.toList
    · rw [h, h2]; simp
    · have hn : tx a.data.toList ++ tx b.data.toList ≠ tx c.data.toList ++ tx d.data.toList := by
        intro hh
        rw [tx_app, tx_app] at hh
        have h3 := (tx_inj _ _ _ _ hh).2
        have h4 : txb b.data.toList ++ 0 :: 1 :: [] = txb d.data.toList ++ 0 :: 1 :: [] := h3
        exact h2 (tx_inj _ _ _ _ h4).1
      rw [beq_eq_false_iff_ne.2 hn, beq_eq_false_iff_ne.2 h2]; simp
  · have hn : tx a.data.toList ++ tx b.data.toList ≠ tx c.data.toList ++ tx d.data.toList := by
      intro hh
      rw [tx_app, tx_app] at hh
      exact h (tx_inj _ _ _ _ hh).1
    rw [beq_eq_false_iff_ne.2 hn, beq_eq_false_iff_ne.2 h]; simp
set_option maxRecDepth 100000 in
set_option maxHeartbeats 1000000 in
theorem pairs_walk (a b c d : ByteArray) (h1 : a.size + b.size ≤ 1000) (h2 : c.size + d.size ≤ 1000) (w : World) :
    Calls Try.prog 7 #[.string a, .string b, .string c, .string d] w fun e w' => e = .returned (.bool true) ∧ Below w.heap.size w w' := by
  have i1 : ¬ 1000 < (a.size : Int) + (b.size : Int) := by omega
  have i2 : ¬ 1000 < (c.size : Int) + (d.size : Int) := by omega
  have HLA : Hid ((tx a.data.toList).length + (tx b.data.toList).length ≤ 50000) := by
    have t1 := tx_len a; have t2 := tx_len b; unfold Hid; omega
  have HLC : Hid ((tx c.data.toList).length + (tx d.data.toList).length ≤ 50000) := by
    have t1 := tx_len c; have t2 := tx_len d; unfold Hid; omega
  have HX : Hid _ := pairs_less a b c d
  have HEQ : Hid _ := pairs_eq a b c d
  go_enter Try.func7, Try.ntmps7
  go_wp2_with fail
  refine (text_any a (by omega) _).mono ?_
  rintro e w1 ⟨va, rfl, oa, b1⟩
  have RA1 : Hid (Reads w1 va (tx a.data.toList)) := reads_own oa
  have HB1 : Hid (Below w.heap.size w w1) := b1
  clear oa b1
  go_wp2_with fail
  refine (text_any b (by omega) _).mono ?_
  rintro e w2 ⟨vb, rfl, ob, b2⟩
  have RB2 : Hid (Reads w2 vb (tx b.data.toList)) := reads_own ob
  have RA2 : Hid (Reads w2 va (tx a.data.toList)) := RA1.out.below b2
  have HB2 : Hid (Below w.heap.size w w2) := HB1.out.trans (b2.mono HB1.out.size)
  clear ob b2 RA1
  go_wp2_with fail
  refine (with_two va vb _ _ (tx_pos _) (tx_pos _) HLA.out _ RA2.out RB2.out).mono ?_
  rintro e w3 ⟨v3, rfl, o3, b3⟩
  have hcv := reads_text (reads_own o3)
  have HB3 : Hid (Below w.heap.size w w3) := HB2.out.trans (b3.mono HB2.out.size)
  clear o3 b3 RA2 RB2
  go_wp2_with fail
  clear hcv
  refine (text_any c (by omega) _).mono ?_
  rintro e w4 ⟨vc, rfl, oc, b4⟩
  have RC4 : Hid (Reads w4 vc (tx c.data.toList)) := reads_own oc
  have HB4 : Hid (Below w.heap.size w w4) := HB3.out.trans (b4.mono HB3.out.size)
  clear oc b4
  go_wp2_with fail
  refine (text_any d (by omega) _).mono ?_
  rintro e w5 ⟨vd, rfl, od, b5⟩
  have RD5 : Hid (Reads w5 vd (tx d.data.toList)) := reads_own od
  have RC5 : Hid (Reads w5 vc (tx c.data.toList)) := RC4.out.below b5
  have HB5 : Hid (Below w.heap.size w w5) := HB4.out.trans (b5.mono HB4.out.size)
  clear od b5 RC4
  go_wp2_with fail
  refine (with_two vc vd _ _ (tx_pos _) (tx_pos _) HLC.out _ RC5.out RD5.out).mono ?_
  rintro e w6 ⟨v6, rfl, o6, b6⟩
  have hcv := reads_text (reads_own o6)
  have HB6 : Hid (Below w.heap.size w w6) := HB5.out.trans (b6.mono HB5.out.size)
  clear o6 b6 RC5 RD5
  go_wp2_with fail
  clear hcv
  refine (alive_any _).mono ?_
  rintro e w7 ⟨rfl, b7⟩
  have HB7 : Hid (Below w.heap.size w w7) := HB6.out.trans (b7.mono HB6.out.size)
  clear b7
  have hX := HX.out
  have hE := HEQ.out
  generalize hA1 : Op.bytesLess a.toList c.toList = A1 at hX hE
  generalize hA2 : (a.toList == c.toList) = A2 at hX hE
  generalize hA3 : Op.bytesLess b.toList d.toList = A3 at hX hE
  generalize hA4 : (b.toList == d.toList) = A4 at hX hE
  cases A1 <;> cases A2 <;> cases A3 <;> cases A4 <;>
  · simp only [Bool.false_or, Bool.true_or, Bool.false_and, Bool.true_and] at hX hE
    go_wp2_with fail
    go_ret
    exact ⟨rfl, HB7.out⟩
set_option maxRecDepth 100000 in
set_option maxHeartbeats 1000000 in
theorem pairs_long (a b c d : ByteArray) (m1 : a.size ≤ 140737488355328) (m2 : b.size ≤ 140737488355328) (m3 : c.size ≤ 140737488355328) (m4 : d.size ≤ 140737488355328) (h : 1000 < a.size + b.size ∨ 1000 < c.size + d.size) (w : World) :
    Calls Try.prog 7 #[.string a, .string b, .string c, .string d] w fun e w' => e = .returned (.bool true) ∧ Below w.heap.size w w' := by
  have k1 : (a.size : Int) ≤ 140737488355328 := by omega
  have k2 : (b.size : Int) ≤ 140737488355328 := by omega
  have k3 : (c.size : Int) ≤ 140737488355328 := by omega
  have k4 : (d.size : Int) ≤ 140737488355328 := by omega
  by_cases h1 : 1000 < a.size + b.size
  · have i1 : 1000 < (a.size : Int) + (b.size : Int) := by omega
    clear h h1 m1 m2 m3 m4
    go_enter Try.func7, Try.ntmps7
    go_wp2_with fail
    refine (alive_any _).mono ?_
    rintro e w5 ⟨rfl, hb5⟩
    have HB5 : Hid (Below w.heap.size w w5) := hb5
    clear hb5
    go_wp2_with fail
    go_ret
    exact ⟨rfl, HB5.out⟩
  · have i1 : ¬ 1000 < (a.size : Int) + (b.size : Int) := by omega
    have i2 : 1000 < (c.size : Int) + (d.size : Int) := by omega
    clear h h1 m1 m2 m3 m4
    go_enter Try.func7, Try.ntmps7
    go_wp2_with fail
    refine (alive_any _).mono ?_
    rintro e w5 ⟨rfl, hb5⟩
    have HB5 : Hid (Below w.heap.size w w5) := hb5
    clear hb5
    go_wp2_with fail
    go_ret
    exact ⟨rfl, HB5.out⟩
theorem reach_le {s : ByteArray} (h : s.data.toList.length ≤ reachBytes) : s.size ≤ 140737488355328 := by
  have := reachBytes_lt
  have e : s.data.toList.length = s.size := Array.length_toList
  omega
theorem pairsWalk (a b c d : ByteArray) (w : World) (_ : a.size ≤ maxLen) (z0 : a.data.toList.length ≤ reachBytes) (_ : b.size ≤ maxLen) (z1 : b.data.toList.length ≤ reachBytes) (_ : c.size ≤ maxLen) (z2 : c.data.toList.length ≤ reachBytes) (_ : d.size ≤ maxLen) (z3 : d.data.toList.length ≤ reachBytes) :
    Calls Try.prog 7 #[.string a, .string b, .string c, .string d] w fun e w' => e = .returned (.bool true) ∧ Below w.heap.size w w' := by
  by_cases h : 1000 < a.size + b.size ∨ 1000 < c.size + d.size
  · exact pairs_long a b c d (reach_le z0) (reach_le z1) (reach_le z2) (reach_le z3) h w
  · exact pairs_walk a b c d (by omega) (by omega) w
end Go.Proofs.Ytpgnifdjjfohcaa
