/- The contract of the reference's Write of layer 2. -/
import Derived.Test.YtaafklpgfikjnaaAY1
namespace Go.Proofs.Ytaafklpgfikjnaa
open Go.RowKit

set_option maxRecDepth 100000 in
set_option maxHeartbeats 2000000 in
theorem refAW (a : Ag) (hA : AgOk a) (w : World) :
    Calls Try.prog 6 #[.agg #[.int .u64 a.c, .bool a.o, .int .i64 (hi a.s), .int .u64 (lo a.s), .int .i64 a.mn, .int .i64 a.mx]] w fun e w' => ∃ v, e = .returned (.tuple #[v, .int .i64 (wrE a)]) ∧ Own w' w.heap.size v (wrU a) ∧ Below w.heap.size w w' := by
  obtain ⟨E, HE⟩ := hid_ex (wrE a)
  obtain ⟨V, HV⟩ := hid_ex (wrU a)
  rw [← HE.out, ← HV.out]
  have hc1 := hA.c1
  have hc2 := hA.c2
  have hlo : 0 ≤ lo a.s ∧ lo a.s < 18446744073709551616 := by unfold lo; omega
  obtain ⟨l1, l2⟩ := hlo
  obtain ⟨m1, hm1⟩ : ∃ m1, m1 = a.mn % 18446744073709551616 := ⟨_, rfl⟩
  obtain ⟨m2, hm2⟩ : ∃ m2, m2 = a.mx % 18446744073709551616 := ⟨_, rfl⟩
  have e1 : IntKind.u64.wrap a.mn = m1 := by rw [IntKind.wrap_u64, hm1]
  have e2 : IntKind.u64.wrap a.mx = m2 := by rw [IntKind.wrap_u64, hm2]
  have b1 : 0 ≤ m1 ∧ m1 < 18446744073709551616 := by omega
  have b2 : 0 ≤ m2 ∧ m2 < 18446744073709551616 := by omega
  obtain ⟨U, hU⟩ : ∃ U, U = hi a.s % 18446744073709551616 := ⟨_, rfl⟩
  have HU : Hid (IntKind.u64.wrap (hi a.s) = U ∧ 0 ≤ U ∧ U < 18446744073709551616) := ⟨by rw [IntKind.wrap_u64, hU], by omega, by omega⟩
  have HG : Hid (aggU a = [if a.o = true then 1 else 0] ++ u8s a.c.toNat ++ (u8s U.toNat ++ u8s (lo a.s).toNat) ++ u8s m1.toNat ++ u8s m2.toNat) := by
    unfold Hid aggU
    rw [hU, hm1, hm2]
    simp
  clear hm1 hm2 hU hA
  obtain ⟨w1, HW1⟩ := hid_ex (w.alloc (.cells #[.int .u64 a.c, .bool a.o, .int .i64 (hi a.s), .int .u64 (lo a.s), .int .i64 a.mn, .int .i64 a.mx] 26))
  have HB1 : Hid (Below w.heap.size w w1) := by rw [HW1.out]; exact (Below.refl _ _).alloc (Nat.le_refl _) _
  have HA1 : Hid (w1.heap[w.heap.size]? = some (.cells #[.int .u64 a.c, .bool a.o, .int .i64 (hi a.s), .int .u64 (lo a.s), .int .i64 a.mn, .int .i64 a.mx] 26)) := by rw [HW1.out]; exact World.alloc_heap_new _ _
  have HRA : Hid _ := refRightA a
  go_enter Try.func6, Try.ntmps6
  go_wp2_with fail
  rw [← HW1.out]
  clear HW1
  refine (HRA.out _).mono ?_
  rintro e w2 ⟨rfl, hb2⟩
  have HB2 : Hid (Below w.heap.size w w2) := HB1.out.trans (hb2.mono HB1.out.size)
  have HA2 : Hid (w2.heap[w.heap.size]? = some (.cells #[.int .u64 a.c, .bool a.o, .int .i64 (hi a.s), .int .u64 (lo a.s), .int .i64 a.mn, .int .i64 a.mx] 26)) := (hb2.block _ (Array.getElem?_eq_some_iff.1 HA1.out).1).trans HA1.out
  clear hb2 HB1 HA1 HRA
  cases hra : rightB a with
  | false =>
    have f1 : E = 3 := by rw [HE.out]; unfold wrE; rw [hra]; rfl
    have f2 : V = [] := by rw [HV.out]; unfold wrU; rw [hra]; rfl
    subst f1 f2
    clear hra
    go_wp2_with fail
    go_ret2
    exact ⟨_, rfl, Own.nil _ _, HB2.out⟩
  | true =>
    have f1 : E = 0 := by rw [HE.out]; unfold wrE; rw [if_pos hra]
    have HV2 : Hid (V = aggU a) := by rw [HV.out]; unfold Hid wrU; rw [if_pos hra]
    subst f1
    clear hra
    have z1 := c_rw HA2.out 1 (by simp)
    simp only [List.getElem_toArray, List.getElem_cons_succ, List.getElem_cons_zero] at z1
    obtain ⟨y, HY⟩ : ∃ y : UInt8, Hid (y = if a.o = true then 1 else 0) := ⟨_, rfl⟩
    have hsz2 := HB2.out.size
    have HG2 : Hid (aggU a = [y] ++ u8s a.c.toNat ++ (u8s U.toNat ++ u8s (lo a.s).toNat) ++ u8s m1.toNat ++ u8s m2.toNat) := by rw [HY.out]; exact HG
    have hbx : w.heap.size < w2.heap.size := (Array.getElem?_eq_some_iff.1 HA2.out).1
    cases ho : a.o with
    | false =>
      rw [ho] at z1 HY HA2
      go_wp2_with (at_builtin; refine wpList_app1 rfl _ _ rfl w2.heap.size _ [] y [y] rfl (by rw [HY.out]; rfl) rfl rfl (Own.nil _ _) (by simp) (Nat.le_refl _) ?_)
      intro v3 w3 ho3 HB3
      have HO3 : Hid (Own w3 w2.heap.size v3 [y]) := ho3
      have HW3 : Hid (Below w2.heap.size w2 w3) := HB3.out
      clear ho3 HB3 z1
      have z0 := c_rw ((HW3.out.block _ (by omega)).trans HA2.out) 0 (by simp)
      simp only [List.getElem_toArray, List.getElem_cons_zero] at z0
      go_wp2_with fail
      refine (eight_any a.c hc1 hc2 _).mono ?_
      rintro e w4 ⟨v4, rfl, ho4, hb4⟩
      have HW4 : Hid (Below w2.heap.size w2 w4) := HW3.out.trans (hb4.mono HW3.out.size)
      have HO4 : Hid (Own w4 w2.heap.size v3 ([y])) := HO3.out.below hb4
      have HR4 : Hid (Reads w4 v4 (u8s a.c.toNat)) := ho4
      have hz4 := HW4.out.size
      clear ho4 hb4 HW3 HO3 z0
      go_wp2_with (at_builtin; refine wpList_app rfl _ _ rfl w2.heap.size _ _ ([y]) (u8s a.c.toNat) _ rfl rfl rfl HO4.out HR4.out (by simp [u8s_len]) hz4 ?_)
      intro v5 w5 ho5 HB5
      have HO5 : Hid (Own w5 w2.heap.size v5 ([y] ++ u8s a.c.toNat)) := by
        have h := ho5
        (try simp only [List.append_assoc] at h)
        (try simp only [List.append_assoc])
        exact h
      have HW5 : Hid (Below w2.heap.size w2 w5) := HW4.out.trans HB5.out
      clear ho5 HB5 HW4 HO4 HR4 hz4
      have z2 := c_rw ((HW5.out.block _ (by omega)).trans HA2.out) 2 (by simp)
      have z3 := c_rw ((HW5.out.block _ (by omega)).trans HA2.out) 3 (by simp)
      simp only [List.getElem_toArray, List.getElem_cons_succ, List.getElem_cons_zero] at z2 z3
      go_wp2_with fail
      refine (rw01 (hi a.s) (lo a.s) U l1 l2 HU.out.1 HU.out.2.1 HU.out.2.2 _).mono ?_
      rintro e w6 ⟨v6, rfl, ho6, hb6⟩
      have HW6 : Hid (Below w2.heap.size w2 w6) := HW5.out.trans (hb6.mono HW5.out.size)
      have HO6 : Hid (Own w6 w2.heap.size v5 ([y] ++ u8s a.c.toNat)) := HO5.out.below hb6
      have HR6 : Hid (Reads w6 v6 ((u8s U.toNat ++ u8s (lo a.s).toNat))) := ho6.reads
      have hz6 := HW6.out.size
      clear ho6 hb6 HW5 HO5 z2 z3
      go_wp2_with (at_builtin; refine wpList_app rfl _ _ rfl w2.heap.size _ _ ([y] ++ u8s a.c.toNat) ((u8s U.toNat ++ u8s (lo a.s).toNat)) _ rfl rfl rfl HO6.out HR6.out (by simp [u8s_len]) hz6 ?_)
      intro v7 w7 ho7 HB7
      have HO7 : Hid (Own w7 w2.heap.size v7 ([y] ++ u8s a.c.toNat ++ (u8s U.toNat ++ u8s (lo a.s).toNat))) := by
        have h := ho7
        (try simp only [List.append_assoc] at h)
        (try simp only [List.append_assoc])
        exact h
      have HW7 : Hid (Below w2.heap.size w2 w7) := HW6.out.trans HB7.out
      clear ho7 HB7 HW6 HO6 HR6 hz6
      have z4 := c_rw ((HW7.out.block _ (by omega)).trans HA2.out) 4 (by simp)
      simp only [List.getElem_toArray, List.getElem_cons_succ, List.getElem_cons_zero] at z4
      go_wp2_with fail
      refine (eight_any m1 b1.1 b1.2 _).mono ?_
      rintro e w8 ⟨v8, rfl, ho8, hb8⟩
      have HW8 : Hid (Below w2.heap.size w2 w8) := HW7.out.trans (hb8.mono HW7.out.size)
      have HO8 : Hid (Own w8 w2.heap.size v7 ([y] ++ u8s a.c.toNat ++ (u8s U.toNat ++ u8s (lo a.s).toNat))) := HO7.out.below hb8
      have HR8 : Hid (Reads w8 v8 (u8s m1.toNat)) := ho8
      have hz8 := HW8.out.size
      clear ho8 hb8 HW7 HO7 z4
      go_wp2_with (at_builtin; refine wpList_app rfl _ _ rfl w2.heap.size _ _ ([y] ++ u8s a.c.toNat ++ (u8s U.toNat ++ u8s (lo a.s).toNat)) (u8s m1.toNat) _ rfl rfl rfl HO8.out HR8.out (by simp [u8s_len]) hz8 ?_)
      intro v9 w9 ho9 HB9
      have HO9 : Hid (Own w9 w2.heap.size v9 ([y] ++ u8s a.c.toNat ++ (u8s U.toNat ++ u8s (lo a.s).toNat) ++ u8s m1.toNat)) := by
        have h := ho9
        (try simp only [List.append_assoc] at h)
        (try simp only [List.append_assoc])
        exact h
      have HW9 : Hid (Below w2.heap.size w2 w9) := HW8.out.trans HB9.out
      clear ho9 HB9 HW8 HO8 HR8 hz8
      have z5 := c_rw ((HW9.out.block _ (by omega)).trans HA2.out) 5 (by simp)
      simp only [List.getElem_toArray, List.getElem_cons_succ, List.getElem_cons_zero] at z5
      go_wp2_with fail
      refine (eight_any m2 b2.1 b2.2 _).mono ?_
      rintro e w10 ⟨v10, rfl, ho10, hb10⟩
      have HW10 : Hid (Below w2.heap.size w2 w10) := HW9.out.trans (hb10.mono HW9.out.size)
      have HO10 : Hid (Own w10 w2.heap.size v9 ([y] ++ u8s a.c.toNat ++ (u8s U.toNat ++ u8s (lo a.s).toNat) ++ u8s m1.toNat)) := HO9.out.below hb10
      have HR10 : Hid (Reads w10 v10 (u8s m2.toNat)) := ho10
      have hz10 := HW10.out.size
      clear ho10 hb10 HW9 HO9 z5
      go_wp2_with (at_builtin; refine wpList_app rfl _ _ rfl w2.heap.size _ _ ([y] ++ u8s a.c.toNat ++ (u8s U.toNat ++ u8s (lo a.s).toNat) ++ u8s m1.toNat) (u8s m2.toNat) _ rfl rfl rfl HO10.out HR10.out (by simp [u8s_len]) hz10 ?_)
      intro v11 w11 ho11 HB11
      have HO11 : Hid (Own w11 w2.heap.size v11 ([y] ++ u8s a.c.toNat ++ (u8s U.toNat ++ u8s (lo a.s).toNat) ++ u8s m1.toNat ++ u8s m2.toNat)) := by
        have h := ho11
        (try simp only [List.append_assoc] at h)
        (try simp only [List.append_assoc])
        exact h
      have HW11 : Hid (Below w2.heap.size w2 w11) := HW10.out.trans HB11.out
      clear ho11 HB11 HW10 HO10 HR10 hz10
      go_wp2_with fail
      go_ret2
      refine ⟨_, rfl, ?_, HB2.out.trans (HW11.out.mono hsz2)⟩
      rw [HV2.out, HG2.out]
      exact HO11.out.mono hsz2
    | true =>
      rw [ho] at z1 HY HA2
      go_wp2_with (at_builtin; refine wpList_app1 rfl _ _ rfl w2.heap.size _ [] y [y] rfl (by rw [HY.out]; rfl) rfl rfl (Own.nil _ _) (by simp) (Nat.le_refl _) ?_)
      intro v3 w3 ho3 HB3
      have HO3 : Hid (Own w3 w2.heap.size v3 [y]) := ho3
      have HW3 : Hid (Below w2.heap.size w2 w3) := HB3.out
      clear ho3 HB3 z1
      have z0 := c_rw ((HW3.out.block _ (by omega)).trans HA2.out) 0 (by simp)
      simp only [List.getElem_toArray, List.getElem_cons_zero] at z0
      go_wp2_with fail
      refine (eight_any a.c hc1 hc2 _).mono ?_
      rintro e w4 ⟨v4, rfl, ho4, hb4⟩
      have HW4 : Hid (Below w2.heap.size w2 w4) := HW3.out.trans (hb4.mono HW3.out.size)
      have HO4 : Hid (Own w4 w2.heap.size v3 ([y])) := HO3.out.below hb4
      have HR4 : Hid (Reads w4 v4 (u8s a.c.toNat)) := ho4
      have hz4 := HW4.out.size
      clear ho4 hb4 HW3 HO3 z0
      go_wp2_with (at_builtin; refine wpList_app rfl _ _ rfl w2.heap.size _ _ ([y]) (u8s a.c.toNat) _ rfl rfl rfl HO4.out HR4.out (by simp [u8s_len]) hz4 ?_)
      intro v5 w5 ho5 HB5
      have HO5 : Hid (Own w5 w2.heap.size v5 ([y] ++ u8s a.c.toNat)) := by
        have h := ho5
        (try simp only [List.append_assoc] at h)
        (try simp only [List.append_assoc])
        exact h
      have HW5 : Hid (Below w2.heap.size w2 w5) := HW4.out.trans HB5.out
      clear ho5 HB5 HW4 HO4 HR4 hz4
      have z2 := c_rw ((HW5.out.block _ (by omega)).trans HA2.out) 2 (by simp)
      have z3 := c_rw ((HW5.out.block _ (by omega)).trans HA2.out) 3 (by simp)
      simp only [List.getElem_toArray, List.getElem_cons_succ, List.getElem_cons_zero] at z2 z3
      go_wp2_with fail
      refine (rw01 (hi a.s) (lo a.s) U l1 l2 HU.out.1 HU.out.2.1 HU.out.2.2 _).mono ?_
      rintro e w6 ⟨v6, rfl, ho6, hb6⟩
      have HW6 : Hid (Below w2.heap.size w2 w6) := HW5.out.trans (hb6.mono HW5.out.size)
      have HO6 : Hid (Own w6 w2.heap.size v5 ([y] ++ u8s a.c.toNat)) := HO5.out.below hb6
      have HR6 : Hid (Reads w6 v6 ((u8s U.toNat ++ u8s (lo a.s).toNat))) := ho6.reads
      have hz6 := HW6.out.size
      clear ho6 hb6 HW5 HO5 z2 z3
      go_wp2_with (at_builtin; refine wpList_app rfl _ _ rfl w2.heap.size _ _ ([y] ++ u8s a.c.toNat) ((u8s U.toNat ++ u8s (lo a.s).toNat)) _ rfl rfl rfl HO6.out HR6.out (by simp [u8s_len]) hz6 ?_)
      intro v7 w7 ho7 HB7
      have HO7 : Hid (Own w7 w2.heap.size v7 ([y] ++ u8s a.c.toNat ++ (u8s U.toNat ++ u8s (lo a.s).toNat))) := by
        have h := ho7
        (try simp only [List.append_assoc] at h)
        (try simp only [List.append_assoc])
        exact h
      have HW7 : Hid (Below w2.heap.size w2 w7) := HW6.out.trans HB7.out
      clear ho7 HB7 HW6 HO6 HR6 hz6
      have z4 := c_rw ((HW7.out.block _ (by omega)).trans HA2.out) 4 (by simp)
      simp only [List.getElem_toArray, List.getElem_cons_succ, List.getElem_cons_zero] at z4
      go_wp2_with fail
      refine (eight_any m1 b1.1 b1.2 _).mono ?_
      rintro e w8 ⟨v8, rfl, ho8, hb8⟩
      have HW8 : Hid (Below w2.heap.size w2 w8) := HW7.out.trans (hb8.mono HW7.out.size)
      have HO8 : Hid (Own w8 w2.heap.size v7 ([y] ++ u8s a.c.toNat ++ (u8s U.toNat ++ u8s (lo a.s).toNat))) := HO7.out.below hb8
      have HR8 : Hid (Reads w8 v8 (u8s m1.toNat)) := ho8
      have hz8 := HW8.out.size
      clear ho8 hb8 HW7 HO7 z4
      go_wp2_with (at_builtin; refine wpList_app rfl _ _ rfl w2.heap.size _ _ ([y] ++ u8s a.c.toNat ++ (u8s U.toNat ++ u8s (lo a.s).toNat)) (u8s m1.toNat) _ rfl rfl rfl HO8.out HR8.out (by simp [u8s_len]) hz8 ?_)
      intro v9 w9 ho9 HB9
      have HO9 : Hid (Own w9 w2.heap.size v9 ([y] ++ u8s a.c.toNat ++ (u8s U.toNat ++ u8s (lo a.s).toNat) ++ u8s m1.toNat)) := by
        have h := ho9
        (try simp only [List.append_assoc] at h)
        (try simp only [List.append_assoc])
        exact h
      have HW9 : Hid (Below w2.heap.size w2 w9) := HW8.out.trans HB9.out
      clear ho9 HB9 HW8 HO8 HR8 hz8
      have z5 := c_rw ((HW9.out.block _ (by omega)).trans HA2.out) 5 (by simp)
      simp only [List.getElem_toArray, List.getElem_cons_succ, List.getElem_cons_zero] at z5
      go_wp2_with fail
      refine (eight_any m2 b2.1 b2.2 _).mono ?_
      rintro e w10 ⟨v10, rfl, ho10, hb10⟩
      have HW10 : Hid (Below w2.heap.size w2 w10) := HW9.out.trans (hb10.mono HW9.out.size)
      have HO10 : Hid (Own w10 w2.heap.size v9 ([y] ++ u8s a.c.toNat ++ (u8s U.toNat ++ u8s (lo a.s).toNat) ++ u8s m1.toNat)) := HO9.out.below hb10
      have HR10 : Hid (Reads w10 v10 (u8s m2.toNat)) := ho10
      have hz10 := HW10.out.size
      clear ho10 hb10 HW9 HO9 z5
      go_wp2_with (at_builtin; refine wpList_app rfl _ _ rfl w2.heap.size _ _ ([y] ++ u8s a.c.toNat ++ (u8s U.toNat ++ u8s (lo a.s).toNat) ++ u8s m1.toNat) (u8s m2.toNat) _ rfl rfl rfl HO10.out HR10.out (by simp [u8s_len]) hz10 ?_)
      intro v11 w11 ho11 HB11
      have HO11 : Hid (Own w11 w2.heap.size v11 ([y] ++ u8s a.c.toNat ++ (u8s U.toNat ++ u8s (lo a.s).toNat) ++ u8s m1.toNat ++ u8s m2.toNat)) := by
        have h := ho11
        (try simp only [List.append_assoc] at h)
        (try simp only [List.append_assoc])
        exact h
      have HW11 : Hid (Below w2.heap.size w2 w11) := HW10.out.trans HB11.out
      clear ho11 HB11 HW10 HO10 HR10 hz10
      go_wp2_with fail
      go_ret2
      refine ⟨_, rfl, ?_, HB2.out.trans (HW11.out.mono hsz2)⟩
      rw [HV2.out, HG2.out]
      exact HO11.out.mono hsz2
end Go.Proofs.Ytaafklpgfikjnaa
