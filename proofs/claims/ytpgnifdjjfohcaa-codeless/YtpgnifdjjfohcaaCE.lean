/- The walk of CodeLess. -/
import Derived.Test.YtpgnifdjjfohcaaC9
import Derived.Deep.Cut
import Derived.Deep.DeepCutAuto
namespace Go.Proofs.Ytpgnifdjjfohcaa
open Go.RowKit

theorem cut_text (l : List UInt8) (n : Nat) : ((ByteArray.mk l.toArray).extract 0 n).toList = l.take n := by
  rw [ByteArray.toList_eq, ByteArray.data_extract]; simp
theorem less_irr (l : List UInt8) : Op.bytesLess l l = false := by
  induction l with
  | nil => rfl
  | cons x l ih => rw [less_same]; exact ih
set_option maxRecDepth 100000 in
set_option maxHeartbeats 1000000 in
theorem less_walk (a b : Int) (a1 : -9223372036854775808 ≤ a) (a2 : a ≤ 9223372036854775807) (b1 : -9223372036854775808 ≤ b) (b2 : b ≤ 9223372036854775807) (s t : ByteArray) (hs : s.size ≤ 1000) (ht : t.size ≤ 1000) (w : World) :
    Calls Try.prog 6 #[.int .i64 a, .int .i64 b, .string s, .string t] w fun e w' => e = .returned (.bool true) ∧ Below w.heap.size w w' := by
  have i1 : ¬ 1000 < (s.size : Int) := by omega
  have i2 : ¬ 1000 < (t.size : Int) := by omega
  go_enter Try.func6, Try.ntmps6
  go_upto_region 3 with fail
  go_cut [9, 10] (fun x y wx => x = .string ⟨(nb a).toArray⟩ ∧ y = .string ⟨(nb b).toArray⟩ ∧ Below w.heap.size w wx)
  case first =>
    go_region_with (first | (go_at_call_of 18 (Value.int .i64 a); refine (number_any a a1 a2 _).mono ?_; rintro e w1 ⟨v1, rfl, hown1, hb1⟩; have hcv1 := reads_text (reads_own hown1); have HR1 : Hid (Reads w1 v1 (nb a)) := reads_own hown1; have HB1 : Hid (Below w.heap.size w w1) := (Below.refl w.heap.size w).drew.trans hb1; clear hown1 hb1) | (go_at_call_of 18 (Value.int .i64 b); refine (number_any b b1 b2 _).mono ?_; rintro e w2 ⟨v2, rfl, hown2, hb2⟩; have hcv2 := reads_text (reads_own hown2); have hcv3 := reads_text (HR1.out.below hb2); have HB2 : Hid (Below w.heap.size w w2) := HB1.out.trans (hb2.mono HB1.out.size); clear hown2 hb2))
    all_goals
      go_wp2_with fail
      go_meet
      case rel => exact ⟨rfl, rfl, HB2.out⟩
  case rest =>
    obtain ⟨rfl, rfl, hbc⟩ := hcut
    have HBC : Hid (Below w.heap.size w wc) := hbc
    clear hbc
    go_upto_region 4 with fail
    go_cut [11, 12] (fun x y wx => x = .string ⟨(tx s.data.toList).toArray⟩ ∧ y = .string ⟨(tx t.data.toList).toArray⟩ ∧ Below w.heap.size w wx)
    case first =>
      go_region_with (first | (go_at_call_of 20 (Value.string s); refine (text_any s (by omega) _).mono ?_; rintro e w1 ⟨v1, rfl, hown1, hb1⟩; have hcv1 := reads_text (reads_own hown1); have HR1 : Hid (Reads w1 v1 (tx s.data.toList)) := reads_own hown1; have HB1 : Hid (Below w.heap.size w w1) := HBC.out.drew.trans (hb1.mono HBC.out.size); clear hown1 hb1) | (go_at_call_of 20 (Value.string t); refine (text_any t (by omega) _).mono ?_; rintro e w2 ⟨v2, rfl, hown2, hb2⟩; have hcv2 := reads_text (reads_own hown2); have hcv3 := reads_text (HR1.out.below hb2); have HB2 : Hid (Below w.heap.size w w2) := HB1.out.trans (hb2.mono HB1.out.size); clear hown2 hb2))
      all_goals
        go_wp2_with fail
        go_meet
        case rel => exact ⟨rfl, rfl, HB2.out⟩
    case rest =>
      obtain ⟨rfl, rfl, hbc⟩ := hcut
      have HBD : Hid (Below w.heap.size w wc) := hbc
      clear hbc
      have hX : Op.bytesLess (nb a) (nb b) = decide (a < b) := by
        rw [less_bv _ _ (by rw [nb_len, nb_len])]
        have e1 := bv_nb a a1 a2
        have e2 := bv_nb b b1 b2
        apply decide_eq_decide.2; omega
      have hP : Op.bytesLess (tx s.data.toList) (tx t.data.toList) = Op.bytesLess s.toList t.toList := by
        rw [ByteArray.toList_eq, ByteArray.toList_eq]
        unfold tx
        rw [tx_less]
        by_cases h : s.data.toList = t.data.toList
        · rw [if_pos h, h]; exact (less_irr _).symm
        · rw [if_neg h]
      have hQ : (tx s.data.toList == tx t.data.toList) = (s.toList == t.toList) := by
        rw [ByteArray.toList_eq, ByteArray.toList_eq]
        by_cases h : s.data.toList = t.data.toList
        · rw [h]; simp
        · have h2 : tx s.data.toList ≠ tx t.data.toList := fun hh => h (tx_inj _ _ [] [] hh).1
          rw [beq_eq_false_iff_ne.2 h, beq_eq_false_iff_ne.2 h2]
      go_wp2_with fail
      refine (alive_any _).mono ?_
      rintro e w5 ⟨rfl, hb5⟩
      have HB5 : Hid (Below w.heap.size w w5) := HBD.out.trans (hb5.mono HBD.out.size)
      clear hb5 hX hP hQ
      cases hst : (s.toList == t.toList)
      · have HNE : Hid (¬ s.data.toList = t.data.toList) := fun h => by
          rw [ByteArray.toList_eq, ByteArray.toList_eq, h] at hst; simp at hst
        by_cases hle : (tx s.data.toList).length ≤ (tx t.data.toList).length
        · have i7 : ((tx s.data.toList).length : Int) ≤ ((tx t.data.toList).length : Int) := by omega
          have hne : ((tx t.data.toList).take (tx s.data.toList).length == tx s.data.toList) = false := by
            apply beq_eq_false_iff_ne.2
            intro h
            have e := List.take_append_drop (tx s.data.toList).length (tx t.data.toList)
            rw [h] at e
            unfold tx at e
            rw [List.append_assoc] at e
            exact HNE.out (tx_inj _ _ _ _ e).1
          rw [← cut_text] at hne
          clear HNE
          go_wp2_with fail
          go_ret
          exact ⟨rfl, HB5.out⟩
        · have i7 : ¬ ((tx s.data.toList).length : Int) ≤ ((tx t.data.toList).length : Int) := by omega
          clear hle HNE
          go_wp2_with fail
          go_ret
          exact ⟨rfl, HB5.out⟩
      · go_wp2_with fail
        go_ret
        exact ⟨rfl, HB5.out⟩
set_option maxRecDepth 100000 in
set_option maxHeartbeats 1000000 in
theorem less_long (a b : Int) (s t : ByteArray) (h : 1000 < s.size ∨ 1000 < t.size) (w : World) :
    Calls Try.prog 6 #[.int .i64 a, .int .i64 b, .string s, .string t] w fun e w' => e = .returned (.bool true) ∧ Below w.heap.size w w' := by
  by_cases h1 : 1000 < s.size
  · have i1 : 1000 < (s.size : Int) := by omega
    clear h h1
    go_enter Try.func6, Try.ntmps6
    go_wp2_with fail
    refine (alive_any _).mono ?_
    rintro e w5 ⟨rfl, hb5⟩
    have HB5 : Hid (Below w.heap.size w w5) := hb5
    clear hb5
    go_wp2_with fail
    go_ret
    exact ⟨rfl, HB5.out⟩
  · have i1 : ¬ 1000 < (s.size : Int) := by omega
    have i2 : 1000 < (t.size : Int) := by omega
    clear h h1
    go_enter Try.func6, Try.ntmps6
    go_wp2_with fail
    refine (alive_any _).mono ?_
    rintro e w5 ⟨rfl, hb5⟩
    have HB5 : Hid (Below w.heap.size w w5) := hb5
    clear hb5
    go_wp2_with fail
    go_ret
    exact ⟨rfl, HB5.out⟩
theorem lessWalk (a b : Int) (s t : ByteArray) (w : World) (ha : (Lit.int .i64 a).wf = true) (hb : (Lit.int .i64 b).wf = true) (_ : s.size ≤ maxLen) (_ : t.size ≤ maxLen) :
    Calls Try.prog 6 #[.int .i64 a, .int .i64 b, .string s, .string t] w fun e w' => e = .returned (.bool true) ∧ Below w.heap.size w w' := by
  have h1 := bounds_i64 ha
  have h2 := bounds_i64 hb
  by_cases h : 1000 < s.size ∨ 1000 < t.size
  · exact less_long a b s t h w
  · exact less_walk a b h1.1 h1.2 h2.1 h2.2 s t (by omega) (by omega) w
end Go.Proofs.Ytpgnifdjjfohcaa
