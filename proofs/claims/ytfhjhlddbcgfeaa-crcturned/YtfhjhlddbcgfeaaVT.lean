/- The walk of CrcTurned. -/
import Derived.Test.YtfhjhlddbcgfeaaV6
import Derived.Test.YtfhjhlddbcgfeaaV8
import Derived.Test.YtfhjhlddbcgfeaaOB
namespace Go.Proofs.Ytfhjhlddbcgfeaa
open Go.RowKit Go.ChangeShapes Go.WideShapes Go.ChangeAt Go.Joins

theorem i64_and_nat (a b : Nat) (ha : a < 9223372036854775808) (hb : b < 9223372036854775808) : bits .and .i64 (a : Int) (b : Int) = ((a &&& b : Nat) : Int) := by
  have hx : a &&& b ≤ b := Nat.and_le_right
  show IntKind.i64.wrap ((BitVec.ofInt 64 (a : Int) &&& BitVec.ofInt 64 (b : Int)).toNat : Int) = _
  rw [BitVec.toNat_and, ofInt_u64 a (by omega), ofInt_u64 b (by omega)]
  simp [IntKind.wrap, IntKind.bits, IntKind.signed]
  omega
theorem low15 (a : Nat) (h : a < 9223372036854775808) : bits .and .i64 (a : Int) 32767 = ((a % 32768 : Nat) : Int) := by
  have := i64_and_nat a 32767 h (by decide)
  have e : a &&& 32767 = a % 32768 := Nat.and_two_pow_sub_one_eq_mod a 15
  rw [e] at this
  exact this
theorem x_bit (x : UInt8) (r : Nat) (hr : r < 8) : Value.int .u8 (bits .xor .u8 (x.toNat : Int) (2 ^ r % 256)) = bc (UInt8.ofNat (x.toNat ^^^ 2 ^ r)) := by
  have hx := x.toNat_lt
  have hp : 2 ^ r < 256 := Nat.lt_of_lt_of_le (Nat.pow_lt_pow_right (by decide) hr) (by decide : 2 ^ 8 ≤ 256)
  have hl : x.toNat ^^^ 2 ^ r < 2 ^ 8 := Nat.xor_lt_two_pow hx hp
  have e : ((2 : Int) ^ r % 256) = ((2 ^ r : Nat) : Int) := by
    rw [show ((2 : Int) ^ r) = ((2 ^ r : Nat) : Int) by push_cast; rfl]
    generalize 2 ^ r = q at *
    omega
  rw [e, u8_xor_nat _ _ hx hp]
  unfold bc
  rw [UInt8.toNat_ofNat', Nat.mod_eq_of_lt hl]
set_option maxRecDepth 100000 in
set_option maxHeartbeats 1000000 in
theorem turned_walk (v : Value) (l : List UInt8) (a s : Int) (w : World) (hr : Reads w v l) (ha : (Lit.int .i64 a).wf = true) (hs : (Lit.int .u32 s).wf = true) :
    Calls Try.prog 6 #[v, .int .i64 a, .int .u32 s] w fun e w' => e = .returned (.bool true) ∧ Below w.heap.size w w' := by
  have hs2 := bounds_u32 hs
  have ha2 := bounds_i64 ha
  clear hs ha
  obtain ⟨b, rfl⟩ : ∃ n : Nat, s = n := ⟨s.toNat, by omega⟩
  obtain ⟨a1, c1, rfl, hm⟩ := hr.form
  unfold maxLen at hm
  by_cases g : (2000 : Int) < (l.length : Int) ∨ b = 0 ∨ a < 0
  · by_cases g1 : (2000 : Int) < (l.length : Int) <;> by_cases g2 : ((b : Int) == 0) = true <;> by_cases g3 : a < 0
    all_goals first
      | (exfalso; simp at g2; omega)
      | (clear hr g
         go_enter Try.func6, Try.ntmps6
         go_wp2_with fail
         refine (alive_any _).mono ?_
         rintro e w1 ⟨rfl, hb1⟩
         go_wp2_with fail
         go_ret
         exact ⟨rfl, hb1⟩)
  · obtain ⟨n, rfl⟩ : ∃ n : Nat, a = n := ⟨a.toNat, by omega⟩
    have g1 : ¬ (2000 : Int) < (l.length : Int) := by omega
    have g2 : ((b : Int) == 0) = false := by simp; omega
    have g3 : ¬ (n : Int) < 0 := by omega
    have hb0 : Hid (b ≠ 0) := by unfold Hid; omega
    have hand := low15 n (by omega)
    obtain ⟨m, HM⟩ := hid_ex (n % 32768)
    have hml : m < 32768 := by rw [HM.out]; omega
    rw [← HM.out] at hand
    clear g
    go_enter Try.func6, Try.ntmps6
    go_wp2_with fail
    refine (frame_any _ l (by omega) _ hr).mono ?_
    rintro e w1 ⟨v1, rfl, HO1, hb1⟩
    have HB1 : Hid (Below w.heap.size w w1) := hb1
    have hfl := frm_len l
    obtain ⟨gb, cap, rfl, hg1, hg2, hg3, hg4⟩ := HO1.some (by omega)
    rw [hfl] at hg3 ⊢
    rw [hfl] at HO1
    clear hb1 hr
    by_cases g4 : 8 * ((l.length : Int) + 8) - 32 < 32 + (m : Int)
    · go_wp2_with fail
      refine (alive_any _).mono ?_
      rintro e w2 ⟨rfl, hb2⟩
      have HB2 : Hid (Below w.heap.size w w2) := HB1.out.trans (hb2.mono HB1.out.size)
      clear hb2
      go_wp2_with fail
      go_ret
      exact ⟨rfl, HB2.out⟩
    · go_wp2_with fail
      unfold maxLen at hg4
      go_loopw [10] (fun i wr => ∃ (k : Nat) (F : List UInt8), k ≤ 32 ∧ i = .int .i64 (k : Int) ∧ Hid (Trn (frm l) b (32 + m) k F) ∧ Own wr w.heap.size (.slice (some ⟨gb, 0, none⟩) (l.length + 8) cap) F ∧ Hid (Below w.heap.size w wr)) (fun i _ => 32 - (intOf i).toNat)
      case atStart => exact ⟨0, frm l, by omega, rfl, Trn.zero _ _ _, HO1, HB1⟩
      case round =>
        obtain ⟨k, F, hk, rfl, HT, HR, HB⟩ := hrel
        by_cases hlt : k < 32
        · have y0 := x_and (c := b / 2 ^ k) (Nat.lt_of_le_of_lt (Nat.div_le_self _ _) (by omega))
          rcases Nat.mod_two_eq_zero_or_one (b / 2 ^ k) with h2 | h2
          · have HT1 : Hid (Trn (frm l) b (32 + m) (k + 1) F) := HT.out.skip h2
            rw [h2] at y0
            push_cast at y0
            clear h2
            go_wp2_with fail
            go_roundw
            case rel => exact ⟨k + 1, F, by omega, by go_num, HT1, HR, HB⟩
            case measure => simp [intOf]; omega
          · rw [h2] at y0
            push_cast at y0
            have hFl : F.length = l.length + 8 := by have := HT.out.1; rw [this, hfl]
            have hq : (32 + m + k) / 8 < F.length := by omega
            have HT1 : Hid _ := HT.out.turn h2 (by omega) hq
            obtain ⟨hc1, hf1⟩ := HR.at _ hq
            have HU : Hid _ := x_bit F[(32 + m + k) / 8] ((32 + m + k) % 8) (by omega)
            have HST : Hid _ := HR.stored ((32 + m + k) / 8) (UInt8.ofNat (F[(32 + m + k) / 8].toNat ^^^ 2 ^ ((32 + m + k) % 8)))
            unfold bc at hc1
            have hxb : F[(32 + m + k) / 8].toNat < 256 := F[(32 + m + k) / 8].toNat_lt
            clear h2 HT HR
            go_wp2_with fail
            go_roundw
            case rel =>
              rw [HU.out]
              exact ⟨k + 1, _, by omega, by go_num, HT1, HST.out.1, HB.out.trans HST.out.2⟩
            case measure => simp [intOf]; omega
        · have hk2 : k = 32 := by omega
          have HN : Hid (nxF F = ([], 0, 20)) := turned l F (by omega) b (32 + m) (by omega) hb0.out (by omega) (by have h := HT.out; rw [hk2] at h; exact h)
          clear hk2 HT
          go_wp2_with fail
          refine (next_any _ F _ HR.reads).mono ?_
          rw [HN.out]
          rintro e w3 ⟨v3, rfl, HO3, hb3⟩
          have HB3 : Hid (Below w.heap.size w w3) := HB.out.trans (hb3.mono HB.out.size)
          obtain ⟨a3, c3, rfl, _⟩ := HO3.form
          clear hb3 HO3
          go_wp2_with fail
          refine (alive_any _).mono ?_
          rintro e w4 ⟨rfl, hb4⟩
          have HB4 : Hid (Below w.heap.size w w4) := HB3.out.trans (hb4.mono HB3.out.size)
          clear hb4
          go_wp2_with fail
          go_ret
          exact ⟨rfl, HB4.out⟩
end Go.Proofs.Ytfhjhlddbcgfeaa
