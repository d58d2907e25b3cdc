/- The contracts of the reference's Eight, Number, Right of layer 2. -/
import Derived.Test.YtaafklpgfikjnaaAB3
import Derived.Test.YtaafklpgfikjnaaX6b
import Derived.Test.YtaafklpgfikjnaaX4
import Derived.Test.YtaafklpgfikjnaaAK
namespace Go.Proofs.Ytaafklpgfikjnaa
open Go.RowKit

theorem rw01 (H L U : Int) (l1 : 0 ≤ L) (l2 : L < 18446744073709551616) (hU : IntKind.u64.wrap H = U) (u1 : 0 ≤ U) (u2 : U < 18446744073709551616) (w : World) :
    Calls Try.prog 16 #[.agg #[.int .i64 H, .int .u64 L]] w fun e w' => ∃ v, e = .returned v ∧ Own w' w.heap.size v (u8s U.toNat ++ u8s L.toNat) ∧ Below w.heap.size w w' := by
  refine (refWrite_walk H L U l1 l2 hU u1 u2 w).mono ?_
  rintro e w' ⟨v, rfl, ho, hb⟩
  refine ⟨v, rfl, ?_, hb⟩
  have hc := cells16 U.toNat L.toNat
  rw [Int.toNat_of_nonneg u1, Int.toNat_of_nonneg l1] at hc
  rw [wrZ_all, hc] at ho
  exact ho
set_option maxRecDepth 100000 in
set_option maxHeartbeats 1000000 in
theorem eight_any (x : Int) (h1 : 0 ≤ x) (h2 : x < 18446744073709551616) (w : World) :
    Calls Try.prog 15 #[.int .u64 x] w fun e w' => ∃ v, e = .returned v ∧ Reads w' v (u8s x.toNat) ∧ Below w.heap.size w w' := by
  go_enter Try.func15, Try.ntmps15
  go_wp2_with fail
  refine (rw01 0 x 0 h1 h2 (by decide) (by decide) (by decide) _).mono ?_
  rintro e w1 ⟨v1, rfl, ho1, hb1⟩
  have HB1 : Hid (Below w.heap.size w w1) := hb1
  obtain ⟨a1, c1, rfl, -⟩ := ho1.form
  obtain ⟨P, HP⟩ := hid_ex (u8s (0 : Int).toNat ++ u8s x.toNat)
  have hPl : P.length = 16 := by rw [HP.out]; simp [u8s_len]
  have HPd : Hid (P.drop 8 = u8s x.toNat) := by rw [HP.out]; exact List.drop_left (l₁ := u8s (0 : Int).toNat)
  rw [← HP.out] at ho1
  rw [← HP.out]
  obtain ⟨a2, f2, hs2, hr2⟩ := sl_from ho1.reads (c := 8) (by omega)
  rw [hPl] at hs2 hr2
  have k2 : ∀ w', (Instr.slice 27 (.slice a1 16 c1) (some (.int .i64 8)) none none).run Try.prog w' = .ok (.slice a2 8 f2) w' := hs2
  have HR2 : Hid (Reads w1 (.slice a2 8 f2) (u8s x.toNat)) := by rw [← HPd.out]; exact hr2
  rw [hPl]
  clear hb1 ho1 hs2 hr2 hPl
  go_wp2_with fail
  go_ret
  exact ⟨_, rfl, HR2.out, HB1.out⟩
theorem bv_snoc (l : List UInt8) (x : UInt8) : bv (l ++ [x]) = bv l * 256 + x.toNat := by
  induction l with
  | nil => simp [bv]
  | cons y l ih =>
    simp only [List.cons_append, bv, ih, List.length_append, List.length_singleton, Nat.pow_succ]
    rw [Nat.add_mul, Nat.mul_assoc]; omega
set_option maxRecDepth 100000 in
set_option maxHeartbeats 1000000 in
theorem number_any (v : Value) (p : List UInt8) (hp : p.length = 8) (w : World) (hR : Reads w v p) :
    Calls Try.prog 19 #[v] w fun e w' => e = .returned (.int .u64 ((bv p : Nat) : Int)) ∧ w' = w := by
  obtain ⟨a, c, rfl, -⟩ := hR.form
  have HR : Hid (Reads w (.slice a p.length c) p) := hR
  have H8 : Hid (bv p < 18446744073709551616) := bv8_lt hp
  have HT : Hid (∀ k (h : k < p.length), bv (p.take (k + 1)) = bv (p.take k) * 256 + p[k].toNat) := by
    intro k h
    rw [List.take_add_one, List.getElem?_eq_getElem h]
    exact bv_snoc _ _
  have HL : Hid (∀ k, k < p.length → bv (p.take k) * 256 + 255 < 18446744073709551616) := by
    intro k h
    have h1 := bv_lt (p.take k)
    rw [List.length_take, Nat.min_eq_left (by omega)] at h1
    have h2 : 256 ^ k ≤ 256 ^ 7 := Nat.pow_le_pow_right (by omega) (by omega)
    have e : (256 : Nat) ^ 7 = 72057594037927936 := by decide
    rw [e] at h2
    omega
  clear hR
  rw [hp]
  go_enter Try.func19, Try.ntmps19
  go_wp2_with fail
  go_loop [3, 4] (fun n i => ∃ k : Nat, k ≤ 8 ∧ i = .int .i64 (k : Int) ∧ n = .int .u64 ((bv (p.take k) : Nat) : Int)) (fun _ i => 8 - (intOf i).toNat)
  case atStart => exact ⟨0, by omega, rfl, rfl⟩
  case round =>
    obtain ⟨k, hk, rfl, rfl⟩ := hrel
    by_cases hlt : k < 8
    · obtain ⟨b1, o1, rfl, _, d1⟩ := HR.out.at k (by omega)
      unfold bc at d1
      have HT2 := HT.out k (by omega)
      have HL2 := HL.out k (by omega)
      obtain ⟨x, HX⟩ := hid_ex p[k]
      rw [← HX.out] at d1 HT2
      obtain ⟨N, HN⟩ := hid_ex (bv (p.take k))
      rw [← HN.out] at HT2 HL2
      rw [← HN.out]
      have hx := UInt8.toNat_lt x
      have hki : (k : Int) < 8 := by omega
      obtain ⟨M, HM⟩ := hid_ex (N * 256)
      have hw1 : IntKind.u64.wrap (256 * (N : Int)) = (M : Int) := by rw [IntKind.wrap_u64, HM.out]; omega
      have hw2 : IntKind.u64.wrap ((M : Int) + (x.toNat : Int)) = ((M + x.toNat : Nat) : Int) := by rw [IntKind.wrap_u64, HM.out]; omega
      have HE : Hid (bv (p.take (k + 1)) = M + x.toNat) := by unfold Hid; rw [HT2, HM.out]
      clear HT2 HL2
      go_wp2_with fail
      go_round
      case rel => exact ⟨k + 1, by omega, by go_num, by rw [HE.out]; go_num⟩
      case measure => simp [intOf]; omega
    · have hk8 : k = 8 := by omega
      subst hk8
      rw [List.take_of_length_le (by omega)]
      go_wp2_with fail
      go_ret
      exact ⟨rfl, rfl⟩
set_option maxRecDepth 100000 in
set_option maxHeartbeats 1000000 in
theorem refRightA (a : Ag) (w : World) :
    Calls Try.prog 14 #[.agg #[.int .u64 a.c, .bool a.o, .int .i64 (hi a.s), .int .u64 (lo a.s), .int .i64 a.mn, .int .i64 a.mx]] w fun e w' => e = .returned (.bool (rightB a)) ∧ Below w.heap.size w w' := by
  obtain ⟨R, HR⟩ := hid_ex (rightB a)
  rw [← HR.out]
  go_enter Try.func14, Try.ntmps14
  go_wp2_with fail
  all_goals go_ret
  all_goals refine ⟨?_, (Below.refl _ _).alloc (Nat.le_refl _) _⟩
  all_goals (rw [HR.out]; unfold rightB; simp_all)
end Go.Proofs.Ytaafklpgfikjnaa
