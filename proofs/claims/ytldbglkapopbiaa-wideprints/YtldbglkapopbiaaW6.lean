/- The contracts of wide.tenfold and gathered. -/
import Derived.Test.YtldbglkapopbiaaW5
import Derived.Test.YtldbglkapopbiaaD2
namespace Go.Proofs.Ytldbglkapopbiaa
open Go.RowKit

theorem ret3b {k k' : IntKind} {a b a' b' : Int} {c c' : Bool} (h1 : a = a') (h2 : b = b') (h3 : c = c') : Ending.returned (.tuple #[.int k a, .int k' b, .bool c]) = .returned (.tuple #[.int k a', .int k' b', .bool c']) := by rw [h1, h2, h3]

set_option maxHeartbeats 1000000 in
theorem tenfold_any (h l d : Int) (h1 : 0 ≤ h) (h2 : h < 18446744073709551616) (l1 : 0 ≤ l) (l2 : l < 18446744073709551616) (d1 : 0 ≤ d) (d2 : d ≤ 9) (w : World) :
    ∃ ov ou ur lr : Int, (h * 18446744073709551616 + l) * 10 + d = (ov * 18446744073709551616 + ou * 18446744073709551616 + ur) * 18446744073709551616 + lr ∧ (0 ≤ ur ∧ ur < 18446744073709551616 ∧ 0 ≤ lr ∧ lr < 18446744073709551616 ∧ 0 ≤ ov ∧ 0 ≤ ou) ∧
    ∀ b1 b2 : Bool, (ov == 0) = b1 → (b1 = true → (ou == 0) = b2) → (b1 = false → b2 = false) → Calls Try.prog 41 #[.int .u64 h, .int .u64 l, .int .u64 d] w fun e w' => e = .returned (.tuple #[.int .u64 ur, .int .u64 lr, .bool b2]) ∧ Below w.heap.size w w' := by
  obtain ⟨up, HUP⟩ : ∃ up, Hid (up = l * 10 / 18446744073709551616) := ⟨_, rfl⟩
  obtain ⟨lw, HLW⟩ : ∃ lw, Hid (lw = l * 10 % 18446744073709551616) := ⟨_, rfl⟩
  obtain ⟨ov, HOV⟩ : ∃ ov, Hid (ov = h * 10 / 18446744073709551616) := ⟨_, rfl⟩
  obtain ⟨us, HUS⟩ : ∃ us, Hid (us = h * 10 % 18446744073709551616) := ⟨_, rfl⟩
  have bup : 0 ≤ up ∧ up ≤ 9 := by have := HUP.out; omega
  have blw : 0 ≤ lw ∧ lw < 18446744073709551616 := by have := HLW.out; omega
  have bus : 0 ≤ us ∧ us < 18446744073709551616 := by have := HUS.out; omega
  obtain ⟨lr, HLR⟩ : ∃ x, Hid (x = (lw + d) % 18446744073709551616) := ⟨_, rfl⟩
  obtain ⟨cr, HCR⟩ : ∃ x, Hid (x = (lw + d) / 18446744073709551616) := ⟨_, rfl⟩
  have bcr : 0 ≤ cr ∧ cr ≤ 1 := by have := HCR.out; omega
  obtain ⟨ur, HUR⟩ : ∃ x, Hid (x = (us + up + cr) % 18446744073709551616) := ⟨_, rfl⟩
  obtain ⟨ou, HOU⟩ : ∃ x, Hid (x = (us + up + cr) / 18446744073709551616) := ⟨_, rfl⟩
  refine ⟨ov, ou, ur, lr, ?_, ?_, ?_⟩
  · have := HUP.out; have := HLW.out; have := HOV.out; have := HUS.out; have := HLR.out; have := HCR.out; have := HUR.out; have := HOU.out; omega
  · have := HOV.out; have := HLR.out; have := HUR.out; have := HOU.out; omega
  · intro b1 b2 hb1 hb2 hb3
    cases b1
    · have := hb3 rfl
      subst this
      clear hb2 hb3
      go_enter Try.func41, Try.ntmps41
      go_wp2_with fail
      refine (mul64 l 10 l1 l2 (by omega) (by omega) _).mono ?_
      rw [← HUP.out, ← HLW.out]
      rintro e w' ⟨rfl, rfl⟩
      go_wp2_with fail
      refine (carried2 _ lw d blw (by omega) _ (by simp [go_sem]) (by simp [go_sem])).mono ?_
      rw [← HLR.out, ← HCR.out]
      rintro e w' ⟨rfl, rfl⟩
      go_wp2_with fail
      refine (mul64 h 10 h1 h2 (by omega) (by omega) _).mono ?_
      rw [← HOV.out, ← HUS.out]
      rintro e w' ⟨rfl, rfl⟩
      go_wp2_with fail
      refine (carried3 _ us up cr bus (by omega) (by omega) _ (by simp [go_sem]) (by simp [go_sem]) (by simp [go_sem])).mono ?_
      rw [← HUR.out, ← HOU.out]
      rintro e w' ⟨rfl, rfl⟩
      go_wp2_with fail
      go_ret3
      exact ⟨rfl, ((Below.refl _ _).alloc (by simp) _).alloc (by simp) _⟩
    · have hb4 := hb2 rfl
      clear hb2 hb3
      go_enter Try.func41, Try.ntmps41
      go_wp2_with fail
      refine (mul64 l 10 l1 l2 (by omega) (by omega) _).mono ?_
      rw [← HUP.out, ← HLW.out]
      rintro e w' ⟨rfl, rfl⟩
      go_wp2_with fail
      refine (carried2 _ lw d blw (by omega) _ (by simp [go_sem]) (by simp [go_sem])).mono ?_
      rw [← HLR.out, ← HCR.out]
      rintro e w' ⟨rfl, rfl⟩
      go_wp2_with fail
      refine (mul64 h 10 h1 h2 (by omega) (by omega) _).mono ?_
      rw [← HOV.out, ← HUS.out]
      rintro e w' ⟨rfl, rfl⟩
      go_wp2_with fail
      refine (carried3 _ us up cr bus (by omega) (by omega) _ (by simp [go_sem]) (by simp [go_sem]) (by simp [go_sem])).mono ?_
      rw [← HUR.out, ← HOU.out]
      rintro e w' ⟨rfl, rfl⟩
      go_wp2_with fail
      go_ret3
      exact ⟨rfl, ((Below.refl _ _).alloc (by simp) _).alloc (by simp) _⟩

theorem tenfold_fit (n : Nat) (d : Int) (d1 : 0 ≤ d) (d2 : d ≤ 9) (hn : (n : Int) * 10 + d < 340282366920938463463374607431768211456) (w : World) :
    Calls Try.prog 41 #[.int .u64 ((n : Int) / 18446744073709551616), .int .u64 ((n : Int) % 18446744073709551616), .int .u64 d] w fun e w' => e = .returned (.tuple #[.int .u64 (((n : Int) * 10 + d) / 18446744073709551616), .int .u64 (((n : Int) * 10 + d) % 18446744073709551616), .bool true]) ∧ Below w.heap.size w w' := by
  obtain ⟨ov, ou, ur, lr, he, hr, hw⟩ := tenfold_any ((n : Int) / 18446744073709551616) ((n : Int) % 18446744073709551616) d (by omega) (by omega) (by omega) (by omega) d1 d2 w
  have e1 : (n : Int) / 18446744073709551616 * 18446744073709551616 + (n : Int) % 18446744073709551616 = n := by omega
  rw [e1] at he
  have hov : ov = 0 := by omega
  have hou : ou = 0 := by omega
  have := hw true true (by simp [hov]) (by simp [hou]) (by simp)
  refine this.mono fun e w' ⟨h, hb⟩ => ⟨h.trans ?_, hb⟩
  exact ret3b (by omega) (by omega) rfl
theorem tenfold_over (n : Nat) (d : Int) (hn1 : (n : Int) < 340282366920938463463374607431768211456) (d1 : 0 ≤ d) (d2 : d ≤ 9) (hn : 340282366920938463463374607431768211456 ≤ (n : Int) * 10 + d) (w : World) :
    Calls Try.prog 41 #[.int .u64 ((n : Int) / 18446744073709551616), .int .u64 ((n : Int) % 18446744073709551616), .int .u64 d] w fun e w' => ∃ a b : Int, e = .returned (.tuple #[.int .u64 a, .int .u64 b, .bool false]) ∧ Below w.heap.size w w' := by
  obtain ⟨ov, ou, ur, lr, he, hr, hw⟩ := tenfold_any ((n : Int) / 18446744073709551616) ((n : Int) % 18446744073709551616) d (by omega) (by omega) (by omega) (by omega) d1 d2 w
  have e1 : (n : Int) / 18446744073709551616 * 18446744073709551616 + (n : Int) % 18446744073709551616 = n := by omega
  rw [e1] at he
  by_cases hov : ov = 0
  · have hou : ou ≠ 0 := by omega
    exact (hw true false (by simp [hov]) (by simp [hou]) (by simp)).mono fun e w' ⟨h, hb⟩ => ⟨ur, lr, h, hb⟩
  · exact (hw false false (by simp [hov]) (by simp) (by simp)).mono fun e w' ⟨h, hb⟩ => ⟨ur, lr, h, hb⟩

set_option maxRecDepth 100000 in
set_option maxHeartbeats 1000000 in
theorem gathered_fit (s : ByteArray) (hd : AllDigits s.data.toList) (hs : s.size ≤ maxLen) (hn : numOf s.data.toList < 340282366920938463463374607431768211456) (w : World) :
    Calls Try.prog 31 #[.string s] w fun e w' => e = .returned (.tuple #[.int .u64 ((numOf s.data.toList : Int) / 18446744073709551616), .int .u64 ((numOf s.data.toList : Int) % 18446744073709551616), .bool true]) ∧ Below w.heap.size w w' := by
  unfold maxLen at hs
  go_enter Try.func31, Try.ntmps31
  go_wp2
  go_loopw [2, 3, 4, 8] (fun a b f i wr => ∃ k : Nat, k ≤ s.size ∧ i = .int .i64 k ∧ a = .int .u64 ((numOf (s.data.toList.take k) : Int) / 18446744073709551616) ∧ b = .int .u64 ((numOf (s.data.toList.take k) : Int) % 18446744073709551616) ∧ Below w.heap.size w wr) (fun _ _ _ i _ => s.size - (intOf i).toNat)
  case atStart => exact ⟨0, Nat.zero_le _, rfl, congrArg (Value.int .u64) (by simp [numOf]), congrArg (Value.int .u64) (by simp [numOf]), Below.refl _ _⟩
  case round =>
    obtain ⟨k, hk, rfl, rfl, rfl, hbr⟩ := hrel
    by_cases hlt : k < s.size
    · have HS : Hid (numOf (s.data.toList.take (k + 1)) = numOf (s.data.toList.take k) * 10 + (s[k].toNat - 48)) := by
        unfold Hid; rw [take_snocB s k hlt, numOf_snoc]
      have hle := numOf_take_le s.data.toList (k + 1)
      have hdg := hd _ (get_mem s k hlt)
      have hfit : (numOf (s.data.toList.take k) : Int) * 10 + ((s[k].toNat : Int) - 48) < 340282366920938463463374607431768211456 := by have := HS.out; omega
      obtain ⟨c, hc⟩ : ∃ c : Int, c = (s[k].toNat : Int) := ⟨_, rfl⟩
      have c1 : 48 ≤ c := by omega
      have c2 : c ≤ 57 := by omega
      have HC : Hid (c = (s[k].toNat : Int)) := hc
      have hix : (s[k].toNat : Int) = c := hc.symm
      rw [← hc] at hfit
      have HSI : Hid ((numOf (s.data.toList.take (k + 1)) : Int) = (numOf (s.data.toList.take k) : Int) * 10 + (c - 48)) := by
        have := HS.out; unfold Hid; omega
      clear HS hc hle hdg hn
      generalize numOf (s.data.toList.take k) = m at *
      go_wp2_with fail
      refine (tenfold_fit m (c - 48) (by omega) (by omega) hfit _).mono ?_
      rintro e w2 ⟨rfl, hbl⟩
      have HB2 : Hid (Below w.heap.size w w2) := hbr.trans (hbl.mono hbr.size)
      rw [← HSI.out]
      generalize hm' : numOf (List.take (k + 1) s.data.toList) = m' at *
      have HM : Hid (numOf (List.take (k + 1) s.data.toList) = m') := hm'
      clear hm'
      clear hbr hbl hfit HSI
      go_wp2_with fail
      go_roundw
      case rel => exact ⟨k + 1, by omega, by go_num, by rw [HM.out], by rw [HM.out], HB2.out⟩
      case measure => simp [intOf]; omega
    · have hke : k = s.size := by omega
      subst hke
      have e : s.data.toList.take s.size = s.data.toList := List.take_of_length_le (by simp)
      rw [e]
      have HB : Hid (Below w.heap.size w wr) := hbr
      clear hbr
      clear e hd hn
      go_wp2_with fail
      go_ret3
      exact ⟨rfl, HB.out⟩

set_option maxRecDepth 100000 in
set_option maxHeartbeats 1000000 in
theorem gathered_over (s : ByteArray) (hd : AllDigits s.data.toList) (hs : s.size ≤ maxLen) (hn : 340282366920938463463374607431768211456 ≤ numOf s.data.toList) (w : World) :
    Calls Try.prog 31 #[.string s] w fun e w' => e = .returned (.tuple #[.int .u64 0, .int .u64 0, .bool false]) ∧ Below w.heap.size w w' := by
  unfold maxLen at hs
  go_enter Try.func31, Try.ntmps31
  go_wp2
  go_loopw [2, 3, 4, 8] (fun a b f i wr => ∃ k : Nat, k ≤ s.size ∧ i = .int .i64 k ∧ a = .int .u64 ((numOf (s.data.toList.take k) : Int) / 18446744073709551616) ∧ b = .int .u64 ((numOf (s.data.toList.take k) : Int) % 18446744073709551616) ∧ Below w.heap.size w wr ∧ numOf (s.data.toList.take k) < 340282366920938463463374607431768211456) (fun _ _ _ i _ => s.size - (intOf i).toNat)
  case atStart => exact ⟨0, Nat.zero_le _, rfl, congrArg (Value.int .u64) (by simp [numOf]), congrArg (Value.int .u64) (by simp [numOf]), Below.refl _ _, by simp [numOf]⟩
  case round =>
    obtain ⟨k, hk, rfl, rfl, rfl, hbr, hsm⟩ := hrel
    by_cases hlt : k < s.size
    · have HS : Hid (numOf (s.data.toList.take (k + 1)) = numOf (s.data.toList.take k) * 10 + (s[k].toNat - 48)) := by
        unfold Hid; rw [take_snocB s k hlt, numOf_snoc]
      have hdg := hd _ (get_mem s k hlt)
      obtain ⟨c, hc⟩ : ∃ c : Int, c = (s[k].toNat : Int) := ⟨_, rfl⟩
      have c1 : 48 ≤ c := by omega
      have c2 : c ≤ 57 := by omega
      have HC : Hid (c = (s[k].toNat : Int)) := hc
      have hix : (s[k].toNat : Int) = c := hc.symm
      have HSI : Hid ((numOf (s.data.toList.take (k + 1)) : Int) = (numOf (s.data.toList.take k) : Int) * 10 + (c - 48)) := by
        have := HS.out; unfold Hid; omega
      clear HS hc hdg hn
      generalize numOf (s.data.toList.take k) = m at *
      by_cases hfit : (m : Int) * 10 + (c - 48) < 340282366920938463463374607431768211456
      · have hsm2 : (numOf (s.data.toList.take (k + 1)) : Int) < 340282366920938463463374607431768211456 := by rw [HSI.out]; exact hfit
        have HM2 : Hid ((numOf (s.data.toList.take (k + 1)) : Int) < 340282366920938463463374607431768211456) := hsm2
        clear hsm2
        go_wp2_with fail
        refine (tenfold_fit m (c - 48) (by omega) (by omega) hfit _).mono ?_
        rintro e w2 ⟨rfl, hbl⟩
        have HB2 : Hid (Below w.heap.size w w2) := hbr.trans (hbl.mono hbr.size)
        rw [← HSI.out]
        generalize hm' : numOf (List.take (k + 1) s.data.toList) = m' at *
        have HM : Hid (numOf (List.take (k + 1) s.data.toList) = m') := hm'
        clear hm'
        clear hbr hbl hfit HSI hsm
        go_wp2_with fail
        go_roundw
        case rel => exact ⟨k + 1, by omega, by go_num, by rw [HM.out], by rw [HM.out], HB2.out, by rw [HM.out]; have := HM2.out; omega⟩
        case measure => simp [intOf]; omega
      · go_wp2_with fail
        refine (tenfold_over m (c - 48) (by omega) (by omega) (by omega) (by omega) _).mono ?_
        rintro e w2 ⟨a, b, rfl, hbl⟩
        have HB2 : Hid (Below w.heap.size w w2) := hbr.trans (hbl.mono hbr.size)
        clear hbr hbl hfit HSI hsm
        go_wp2_with fail
        go_ret3
        exact ⟨rfl, HB2.out⟩
    · exfalso
      have hke : k = s.size := by omega
      subst hke
      have e : s.data.toList.take s.size = s.data.toList := List.take_of_length_le (by simp)
      rw [e] at hsm
      omega
end Go.Proofs.Ytldbglkapopbiaa
