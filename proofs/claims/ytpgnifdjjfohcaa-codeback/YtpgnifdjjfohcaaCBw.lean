/- The walk of CodeBack. -/
import Derived.Test.YtpgnifdjjfohcaaCB
namespace Go.Proofs.Ytpgnifdjjfohcaa
open Go.RowKit

set_option maxRecDepth 100000 in
set_option maxHeartbeats 2000000 in
theorem back_walk (v : Nat) (hv : v < 18446744073709551616) (n : Int) (n1 : -9223372036854775808 ≤ n) (n2 : n ≤ 9223372036854775807) (s : ByteArray) (hs : s.size ≤ 2000) (ma : Option Addr) (mc : Nat) (lm : List UInt8) (hm : lm.length ≤ 100) (w : World)
    (rm : Reads w (.slice ma lm.length mc) lm) (hn : ∀ c, (Value.slice ma lm.length mc) = .slice none 0 c → c = 0) :
    Calls Try.prog 5 #[.int .u64 (v : Int), .int .i64 n, .string s, .slice ma lm.length mc] w fun e w' => e = .returned (.bool true) ∧ Below w.heap.size w w' := by
  have i1 : ¬ 2000 < (s.size : Int) := by omega
  have i2 : ¬ 100 < (lm.length : Int) := by omega
  have RM0 : Hid (Reads w (.slice ma lm.length mc) lm) := rm
  have HN : Hid (∀ c, (Value.slice ma lm.length mc) = .slice none 0 c → c = 0) := hn
  have E1 : Hid (rsF (sh v ++ lm) 0 0 = (v, (sh v).length, 0)) := by
    have h := rsF_sh v lm 0 0 (by simp) (by simpa using hv) (fun h => by omega)
    unfold Hid; rw [h]; simp
  have E2 : Hid (rnF (nb n ++ lm) = (n, 8, 0)) := rnF_nb n n1 n2 lm
  have E3 : Hid (rtF (tx s.data.toList ++ lm) [] 0 = (s.data.toList, (tx s.data.toList).length, 0)) := by
    have h := rtF_tx s.data.toList lm [] 0
    have e : tx s.data.toList ++ lm = txb s.data.toList ++ 0 :: 1 :: lm := by unfold tx; simp
    unfold Hid; rw [e, h]; simp
  have L1 : Hid ((sh v).length ≤ 10) := sh_len10 hv
  have L3 : Hid ((tx s.data.toList).length ≤ 4002) := by
    have h := txb_len s.data.toList
    have e : s.data.toList.length = s.size := Array.length_toList
    unfold Hid tx; simp; omega
  have P3 : Hid (0 < (tx s.data.toList).length) := by unfold Hid tx; simp
  have HNL : Hid ((nb n).length = 8) := nb_len n
  have hz : (s.data.toList == s.toList) = true := by rw [ByteArray.toList_eq]; simp
  clear rm hn
  go_enter Try.func5, Try.ntmps5
  go_wp2_with fail
  refine (short_any v hv _).mono ?_
  rintro e w1 ⟨va, rfl, o1, b1⟩
  have RA1 : Hid (Reads w1 va (sh v)) := reads_own o1
  have RM1 : Hid (Reads w1 (.slice ma lm.length mc) lm) := RM0.out.below b1
  have HB1 : Hid (Below w.heap.size w w1) := b1
  clear o1 b1
  go_wp2_with fail
  refine (number_any n n1 n2 _).mono ?_
  rintro e w2 ⟨vb, rfl, o2, b2⟩
  have RB2 : Hid (Reads w2 vb (nb n)) := reads_own o2
  have RA2 : Hid (Reads w2 va (sh v)) := RA1.out.below b2
  have RM2 : Hid (Reads w2 (.slice ma lm.length mc) lm) := RM1.out.below b2
  have HB2 : Hid (Below w.heap.size w w2) := HB1.out.trans (b2.mono HB1.out.size)
  clear o2 b2
  go_wp2_with fail
  refine (text_any s (by omega) _).mono ?_
  rintro e w3 ⟨vc, rfl, o3, b3⟩
  have RC3 : Hid (Reads w3 vc (tx s.data.toList)) := reads_own o3
  have RA3 : Hid (Reads w3 va (sh v)) := RA2.out.below b3
  have RB3 : Hid (Reads w3 vb (nb n)) := RB2.out.below b3
  have RM3 : Hid (Reads w3 (.slice ma lm.length mc) lm) := RM2.out.below b3
  have HB3 : Hid (Below w.heap.size w w3) := HB2.out.trans (b3.mono HB2.out.size)
  clear o3 b3 RA1 RA2 RB2 RM0 RM1 RM2 HB1 HB2
  obtain ⟨aa, ac, ea, _⟩ := RA3.out.form
  obtain ⟨ba, bcp, eb, _⟩ := RB3.out.form
  obtain ⟨ca, cc, ec, _⟩ := RC3.out.form
  subst ea eb ec
  rw [HNL.out] at RB3
  rw [HNL.out]
  generalize hsl : (sh v).length = sl at *
  generalize htl : (tx s.data.toList).length = tl at *
  go_wp2_with fail
  refine (with_more _ _ (sh v) lm (sh_pos v) (by rw [hsl]; have := L1.out; omega) _ RA3.out RM3.out HN.out).mono ?_
  rintro e w4 ⟨v4, rfl, o4, b4⟩
  have R4 : Hid (Reads w4 v4 (sh v ++ lm)) := reads_own o4
  have RB4 : Hid (Reads w4 (.slice ba 8 bcp) (nb n)) := Reads.below RB3.out b4
  have RC4 : Hid (Reads w4 (.slice ca tl cc) (tx s.data.toList)) := Reads.below RC3.out b4
  have RM4 : Hid (Reads w4 (.slice ma lm.length mc) lm) := Reads.below RM3.out b4
  have HB4 : Hid (Below w.heap.size w w4) := HB3.out.trans (b4.mono HB3.out.size)
  clear o4 b4 RA3 RB3 RC3 RM3
  go_wp2_with fail
  refine (readShort_any _ (sh v ++ lm) _ R4.out).mono ?_
  rw [E1.out]
  rintro e w5 ⟨rfl, b5⟩
  have RB5 : Hid (Reads w5 (.slice ba 8 bcp) (nb n)) := Reads.below RB4.out b5
  have RC5 : Hid (Reads w5 (.slice ca tl cc) (tx s.data.toList)) := Reads.below RC4.out b5
  have RM5 : Hid (Reads w5 (.slice ma lm.length mc) lm) := Reads.below RM4.out b5
  have HB5 : Hid (Below w.heap.size w w5) := HB4.out.trans (b5.mono HB4.out.size)
  clear b5 R4 RB4 RC4 RM4
  go_wp2_with fail
  refine (with_more _ _ (nb n) lm (by rw [HNL.out]; omega) (by rw [HNL.out]; omega) _ RB5.out RM5.out HN.out).mono ?_
  rintro e w6 ⟨v6, rfl, o6, b6⟩
  have R6 : Hid (Reads w6 v6 (nb n ++ lm)) := reads_own o6
  have RC6 : Hid (Reads w6 (.slice ca tl cc) (tx s.data.toList)) := Reads.below RC5.out b6
  have RM6 : Hid (Reads w6 (.slice ma lm.length mc) lm) := Reads.below RM5.out b6
  have HB6 : Hid (Below w.heap.size w w6) := HB5.out.trans (b6.mono HB5.out.size)
  clear o6 b6 RB5 RC5 RM5
  go_wp2_with fail
  refine (readNumber_any _ (nb n ++ lm) _ R6.out).mono ?_
  rw [E2.out]
  rintro e w7 ⟨rfl, b7⟩
  have RC7 : Hid (Reads w7 (.slice ca tl cc) (tx s.data.toList)) := Reads.below RC6.out b7
  have RM7 : Hid (Reads w7 (.slice ma lm.length mc) lm) := Reads.below RM6.out b7
  have HB7 : Hid (Below w.heap.size w w7) := HB6.out.trans (b7.mono HB6.out.size)
  clear b7 R6 RC6 RM6
  go_wp2_with fail
  refine (with_more _ _ (tx s.data.toList) lm (by rw [htl]; exact P3.out) (by rw [htl]; have := L3.out; omega) _ RC7.out RM7.out HN.out).mono ?_
  rintro e w8 ⟨v8, rfl, o8, b8⟩
  have R8 : Hid (Reads w8 v8 (tx s.data.toList ++ lm)) := reads_own o8
  have HB8 : Hid (Below w.heap.size w w8) := HB7.out.trans (b8.mono HB7.out.size)
  clear o8 b8 RC7 RM7
  go_wp2_with fail
  refine (readText_any _ (tx s.data.toList ++ lm) (by rw [List.length_append, htl]; have := L3.out; omega) _ R8.out).mono ?_
  rw [E3.out]
  rintro e w9 ⟨rfl, b9⟩
  have HB9 : Hid (Below w.heap.size w w9) := HB8.out.trans (b9.mono HB8.out.size)
  clear b9 R8
  go_wp2_with fail
  refine (alive_any _).mono ?_
  rintro e w10 ⟨rfl, b10⟩
  have HB10 : Hid (Below w.heap.size w w10) := HB9.out.trans (b10.mono HB9.out.size)
  clear b10
  go_wp2_with fail
  go_ret
  exact ⟨rfl, HB10.out⟩
set_option maxRecDepth 100000 in
set_option maxHeartbeats 1000000 in
theorem back_long (v n : Int) (s : ByteArray) (ma : Option Addr) (ml mc : Nat) (h : 2000 < s.size ∨ 100 < ml) (w : World) :
    Calls Try.prog 5 #[.int .u64 v, .int .i64 n, .string s, .slice ma ml mc] w fun e w' => e = .returned (.bool true) ∧ Below w.heap.size w w' := by
  by_cases h1 : 2000 < s.size
  · have i1 : 2000 < (s.size : Int) := by omega
    clear h h1
    go_enter Try.func5, Try.ntmps5
    go_wp2_with fail
    refine (alive_any _).mono ?_
    rintro e w5 ⟨rfl, hb5⟩
    have HB5 : Hid (Below w.heap.size w w5) := hb5
    clear hb5
    go_wp2_with fail
    go_ret
    exact ⟨rfl, HB5.out⟩
  · have i1 : ¬ 2000 < (s.size : Int) := by omega
    have i2 : 100 < (ml : Int) := by omega
    clear h h1
    go_enter Try.func5, Try.ntmps5
    go_wp2_with fail
    refine (alive_any _).mono ?_
    rintro e w5 ⟨rfl, hb5⟩
    have HB5 : Hid (Below w.heap.size w w5) := hb5
    clear hb5
    go_wp2_with fail
    go_ret
    exact ⟨rfl, HB5.out⟩
theorem backWalk (v n : Int) (s : ByteArray) (vm : Value) (lm : List UInt8) (w : World) (hv : (Lit.int .u64 v).wf = true) (hn : (Lit.int .i64 n).wf = true) (_ : s.size ≤ maxLen) (rm : Reads w vm lm) (hnil : ∀ c, vm = .slice none 0 c → c = 0) :
    Calls Try.prog 5 #[.int .u64 v, .int .i64 n, .string s, vm] w fun e w' => e = .returned (.bool true) ∧ Below w.heap.size w w' := by
  have h1 := bounds_u64 hv
  have h2 := bounds_i64 hn
  obtain ⟨x, rfl⟩ := Int.eq_ofNat_of_zero_le h1.1
  obtain ⟨ma, mc, rfl, _⟩ := rm.form
  by_cases h : 2000 < s.size ∨ 100 < lm.length
  · exact back_long _ _ s ma _ mc h w
  · exact back_walk x (by omega) n h2.1 h2.2 s (by omega) ma mc lm (by omega) w rm hnil
end Go.Proofs.Ytpgnifdjjfohcaa
