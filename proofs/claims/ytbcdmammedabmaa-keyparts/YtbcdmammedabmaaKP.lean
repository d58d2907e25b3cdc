/- The walk of KeyParts. -/
import Derived.Test.YtbcdmammedabmaaK8
import Derived.Test.YtbcdmammedabmaaK9
namespace Go.Proofs.Ytbcdmammedabmaa
open Go.RowKit Go.ChangeShapes Go.WideShapes Go.ChangeAt Go.Joins

theorem pt_app (L M : List ByteArray) : ∀ m, pt (L ++ M) m = pt L m ++ pt M (m / 2 ^ L.length) := by
  induction L with
  | nil => intro m; simp [pt]
  | cons s L ih =>
    intro m
    have e : m / 2 / 2 ^ L.length = m / 2 ^ (L.length + 1) := by rw [Nat.div_div_eq_div_mul, Nat.pow_succ, Nat.mul_comm 2]
    simp only [List.cons_append, pt, ih, List.length_cons, List.append_assoc, e]
theorem pt_step (D : List ByteArray) (m k : Nat) (h : k < D.length) : pt D m = pt (D.take k) m ++ ((if m / 2 ^ k % 2 = 1 then [D[k]] else []) ++ pt (D.drop (k + 1)) (m / 2 ^ (k + 1))) := by
  have e1 : D = D.take (k + 1) ++ D.drop (k + 1) := (List.take_append_drop _ _).symm
  have e2 : (D.take (k + 1)).length = k + 1 := by simp; omega
  have e3 : (D.take k).length = k := by simp; omega
  conv => lhs; rw [e1]
  rw [pt_app, e2, List.take_succ_eq_append_getElem h, pt_snoc, e3, List.append_assoc]
theorem pt_next (D : List ByteArray) (m k : Nat) (h : k < D.length) : (pt (D.take (k + 1)) m).length = (pt (D.take k) m).length + (if m / 2 ^ k % 2 = 1 then 1 else 0) := by
  have e3 : (D.take k).length = k := by simp; omega
  rw [List.take_succ_eq_append_getElem h, pt_snoc, e3, List.length_append]
  split <;> simp
theorem pt_here (D : List ByteArray) (m k : Nat) (h : k < D.length) (hb : m / 2 ^ k % 2 = 1) : ∃ hx : (pt (D.take k) m).length < (pt D m).length, (pt D m)[(pt (D.take k) m).length] = D[k] := by
  have e := pt_step D m k h
  rw [if_pos hb] at e
  have hl : (pt (D.take k) m).length < (pt D m).length := by rw [e]; simp
  refine ⟨hl, ?_⟩
  have h2 : (pt D m)[(pt (D.take k) m).length]? = some D[k] := by
    rw [e, List.getElem?_append_right (Nat.le_refl _)]; simp
  rw [List.getElem?_eq_getElem hl] at h2
  exact Option.some.inj h2
theorem pt_all (D : List ByteArray) : ∀ m, (∀ k, k < D.length → m / 2 ^ k % 2 = 1) → pt D m = D := by
  induction D with
  | nil => intro m _; rfl
  | cons s D ih =>
    intro m h
    have h0 := h 0 (by simp)
    simp at h0
    rw [pt, if_pos h0, ih]
    · rfl
    · intro k hk
      have := h (k + 1) (by simpa using hk)
      rw [Nat.div_div_eq_div_mul, Nat.mul_comm, ← Nat.pow_succ]; exact this
theorem ones40 (k : Nat) (h : k < 40) : 1099511627775 / 2 ^ k % 2 = 1 := by
  have : ∀ k : Fin 40, 1099511627775 / 2 ^ k.1 % 2 = 1 := by decide
  exact this ⟨k, h⟩
/-- What is left of a mask has the other digits. -/
theorem other_bit (m k : Nat) (h : k < 40) : (1099511627775 - m % 1099511627776) / 2 ^ k % 2 = 1 - m / 2 ^ k % 2 := by
  have hb := Nat.mod_lt m (show 1099511627776 > 0 by decide)
  have hx : (1099511627775 - m % 1099511627776).testBit k = !(m % 1099511627776).testBit k := by
    have h1 := Nat.testBit_two_pow_sub_succ (n := 40) (x := m % 1099511627776) hb k
    have e : 2 ^ 40 - (m % 1099511627776 + 1) = 1099511627775 - m % 1099511627776 := by omega
    rw [e] at h1
    rw [h1]; simp [h]
  have hy : (m % 1099511627776).testBit k = m.testBit k := by
    have h1 := Nat.testBit_mod_two_pow m 40 k
    have e : (2 : Nat) ^ 40 = 1099511627776 := by decide
    rw [e] at h1
    rw [h1]; simp [h]
  rw [hy] at hx
  have t1 := Nat.testBit_eq_decide_div_mod_eq (x := 1099511627775 - m % 1099511627776) (i := k)
  have t2 := Nat.testBit_eq_decide_div_mod_eq (x := m) (i := k)
  rw [t1, t2] at hx
  rcases Nat.mod_two_eq_zero_or_one (m / 2 ^ k) with q | q <;> rcases Nat.mod_two_eq_zero_or_one ((1099511627775 - m % 1099511627776) / 2 ^ k) with r | r <;> simp_all
theorem low40 (a : Nat) (h : a < 9223372036854775808) : bits .and .i64 (a : Int) 1099511627775 = ((a % 1099511627776 : Nat) : Int) := by
  show IntKind.i64.wrap ((BitVec.ofInt 64 (a : Int) &&& BitVec.ofInt 64 ((1099511627775 : Nat) : Int)).toNat : Int) = _
  have e : a &&& 1099511627775 = a % 1099511627776 := Nat.and_two_pow_sub_one_eq_mod a 40
  rw [BitVec.toNat_and, ofInt_u64 a (by omega), ofInt_u64 1099511627775 (by omega), e]
  simp [IntKind.wrap, IntKind.bits, IntKind.signed]
  omega
set_option maxRecDepth 100000 in
set_option maxHeartbeats 2000000 in
theorem kparts_walk (v : Value) (D : List ByteArray) (mi : Int) (w : World) (hd : SReads w v D) (hmi : (Lit.int .i64 mi).wf = true) :
    Calls Try.prog 8 #[v, .int .i64 mi] w fun e w' => e = .returned (.bool true) ∧ Below w.heap.size w w' := by
  have hmb := bounds_i64 hmi
  clear hmi
  obtain ⟨ad, cd, rfl, hdl⟩ := hd.form
  unfold maxLen at hdl
  have HD : Hid (SReads w (.slice ad D.length cd) D) := hd
  clear hd
  go_enter Try.func8, Try.ntmps8
  go_wp2_with fail
  refine (long_any _ D _ HD.out).mono ?_
  rintro e w1 ⟨rfl, hw⟩
  subst w1
  cases hl : longB D with
  | true =>
    clear hl
    go_wp2_with fail
    refine (alive_any _).mono ?_
    rintro e wz ⟨rfl, hbz⟩
    have HBz : Hid (Below w.heap.size w wz) := hbz
    clear hbz
    go_wp2_with fail
    go_ret
    exact ⟨rfl, HBz.out⟩
  | false =>
    clear hl
    by_cases h40 : (40 : Int) < (D.length : Int)
    · go_wp2_with fail
      refine (alive_any _).mono ?_
      rintro e wz ⟨rfl, hbz⟩
      have HBz : Hid (Below w.heap.size w wz) := hbz
      clear hbz
      go_wp2_with fail
      go_ret
      exact ⟨rfl, HBz.out⟩
    · by_cases hneg : mi < 0
      · go_wp2_with fail
        refine (alive_any _).mono ?_
        rintro e wz ⟨rfl, hbz⟩
        have HBz : Hid (Below w.heap.size w wz) := hbz
        clear hbz
        go_wp2_with fail
        go_ret
        exact ⟨rfl, HBz.out⟩
      · obtain ⟨m, rfl⟩ : ∃ m : Nat, mi = m := ⟨mi.toNat, by omega⟩
        have hm : m < 9223372036854775808 := by omega
        have hand := low40 m hm
        have HM2 : Hid ((1099511627775 : Int) - ((m % 1099511627776 : Nat) : Int) = ((1099511627775 - m % 1099511627776 : Nat) : Int)) := by
          have := Nat.mod_lt m (show 1099511627776 > 0 by decide)
          unfold Hid; omega
        obtain ⟨q, HQ⟩ := hid_ex (m % 1099511627776)
        obtain ⟨m', HM'⟩ := hid_ex (1099511627775 - m % 1099511627776)
        have hq : q < 1099511627776 := by rw [HQ.out]; exact Nat.mod_lt _ (by decide)
        have hm' : m' < 9223372036854775808 := by rw [HM'.out]; omega
        rw [← HQ.out] at hand
        have HM3 : Hid ((1099511627775 : Int) - (q : Int) = (m' : Int)) := by
          have := HM2.out
          rw [← HM'.out, ← HQ.out] at this
          exact this
        have HOB : Hid (∀ k, k < D.length → m' / 2 ^ k % 2 = 1 - m / 2 ^ k % 2) := by
          intro k hk; rw [HM'.out]; exact other_bit m k (by omega)
        have HALL : Hid (pt D 1099511627775 = D) := pt_all D _ (fun k hk => ones40 k (by omega))
        clear HM2 HQ HM'
        go_wp2_with fail
        refine (part_any _ D (by omega) m hm _ HD.out).mono ?_
        rintro e w1 ⟨va, rfl, HA1, hb1⟩
        have HB1 : Hid (Below w.heap.size w w1) := hb1
        clear hb1
        go_wp2_with fail
        rw [HM3.out]
        refine (part_any _ D (by omega) m' hm' _ (HD.out.below HB1.out)).mono ?_
        rintro e w2 ⟨vb, rfl, HA2, hb2⟩
        have HB2 : Hid (Below w.heap.size w w2) := HB1.out.trans (hb2.mono HB1.out.size)
        have HA1' := HA1.below hb2
        clear hb2 HA1 HB1
        go_wp2_with fail
        refine (part_any _ D (by omega) 1099511627775 (by omega) _ (HD.out.below HB2.out)).mono ?_
        rw [HALL.out]
        rintro e w3 ⟨vc, rfl, HA3, hb3⟩
        have HB3 : Hid (Below w.heap.size w w3) := HB2.out.trans (hb3.mono HB2.out.size)
        have HRA : Hid (SReads w3 va (pt D m)) := (HA1'.below hb3).reads
        have HRB : Hid (SReads w3 vb (pt D m')) := (HA2.below hb3).reads
        have HRC : Hid (SReads w3 vc D) := HA3.reads
        have HLA : Hid ((pt D m).length ≤ 40) := by have := pt_len D m; unfold Hid; omega
        have HLB : Hid ((pt D m').length ≤ 40) := by have := pt_len D m'; unfold Hid; omega
        clear hb3 HA1' HA2 HA3 HB2
        obtain ⟨aa, ca, hva, _⟩ := HRA.out.form
        obtain ⟨ab, cb, hvb, _⟩ := HRB.out.form
        subst hva hvb
        have HIA : Hid (∀ k (hk : k < D.length), m / 2 ^ k % 2 = 1 → ∃ hx : (pt (D.take k) m).length < (pt D m).length, (pt D m)[(pt (D.take k) m).length] = D[k]) := fun k hk hb => pt_here D m k hk hb
        have HIB : Hid (∀ k (hk : k < D.length), m' / 2 ^ k % 2 = 1 → ∃ hx : (pt (D.take k) m').length < (pt D m').length, (pt D m')[(pt (D.take k) m').length] = D[k]) := fun k hk hb => pt_here D m' k hk hb
        have HNA : Hid (∀ k (hk : k < D.length), (pt (D.take (k + 1)) m).length = (pt (D.take k) m).length + (if m / 2 ^ k % 2 = 1 then 1 else 0)) := fun k hk => pt_next D m k hk
        have HNB : Hid (∀ k (hk : k < D.length), (pt (D.take (k + 1)) m').length = (pt (D.take k) m').length + (if m' / 2 ^ k % 2 = 1 then 1 else 0)) := fun k hk => pt_next D m' k hk
        obtain ⟨P, HPa⟩ := hid_ex (pt D m)
        obtain ⟨Q, HPb⟩ := hid_ex (pt D m')
        rw [← HPa.out] at HRA HLA ⊢
        rw [← HPb.out] at HRB HLB ⊢
        simp only [← HPa.out] at HIA
        simp only [← HPb.out] at HIB
        clear hand HM3
        go_wp2_with fail
        go_loopw [11, 12, 13] (fun x y i wr => ∃ k p q : Nat, k ≤ D.length ∧ i = .int .i64 (k : Int) ∧ x = .int .i64 (p : Int) ∧ y = .int .i64 (q : Int) ∧ Hid (p = (pt (D.take k) m).length) ∧ Hid (q = (pt (D.take k) m').length) ∧ p ≤ k ∧ q ≤ k ∧ Hid (Below w3.heap.size w3 wr)) (fun _ _ i _ => D.length - (intOf i).toNat)
        case atStart => exact ⟨0, 0, 0, by omega, rfl, rfl, rfl, rfl, rfl, by omega, by omega, Below.refl _ _⟩
        case round =>
          obtain ⟨k, p, q, hk, rfl, rfl, rfl, HPp, HQq, hpk, hqk, HW⟩ := hrel
          by_cases hlt : k < D.length
          · have y0 := shr_and m k hm
            have hkm : min k 64 = k := by omega
            have y1 := y0
            rw [hkm] at y1
            have HW0 : Hid (Below w.heap.size w wr) := HB3.out.trans (HW.out.mono HB3.out.size)
            obtain ⟨bd, od, rfl, _, cD⟩ := (HD.out.below HW0.out).at k hlt
            have hbit := HOB.out k hlt
            rcases Nat.mod_two_eq_zero_or_one (m / 2 ^ k) with h2 | h2
            · rw [h2] at hbit
              obtain ⟨hx, hxe⟩ := HIB.out k hlt hbit
              have HN1 := HNA.out k hlt
              have HN2 := HNB.out k hlt
              rw [if_neg (by omega), ← HPp.out] at HN1
              rw [if_pos hbit, ← HQq.out] at HN2
              simp only [← HQq.out] at hx hxe
              obtain ⟨bb, ob, rfl, _, cB⟩ := (HRB.out.below HW.out).at q hx
              rw [hxe] at cB
              rw [h2] at y0 y1
              push_cast at y0 y1
              have hqi : (q : Int) < (Q.length : Int) := by omega
              have HN1' : Hid (p = (pt (D.take (k + 1)) m).length) := by unfold Hid; omega
              have HN2' : Hid (q + 1 = (pt (D.take (k + 1)) m').length) := by unfold Hid; omega
              generalize D[k] = s at *
              clear HN1 HN2 hxe hbit h2 hx hkm
              go_wp2_with fail
              go_quiet (fail)
              go_wp2_with fail
              go_quiet (fail)
              clear y0 y1 cB cD
              go_wp2_with fail
              go_roundw
              case rel => exact ⟨k + 1, p, q + 1, by omega, by go_num, rfl, by go_num, HN1', HN2', by omega, by omega, below_drewN HW.out _⟩
              case measure => simp [intOf]; omega
            · rw [h2] at hbit
              obtain ⟨hx, hxe⟩ := HIA.out k hlt h2
              have HN1 := HNA.out k hlt
              have HN2 := HNB.out k hlt
              rw [if_pos h2, ← HPp.out] at HN1
              rw [if_neg (by omega), ← HQq.out] at HN2
              simp only [← HPp.out] at hx hxe
              obtain ⟨ba, oa, rfl, _, cA⟩ := (HRA.out.below HW.out).at p hx
              rw [hxe] at cA
              rw [h2] at y0 y1
              push_cast at y0 y1
              have hpi : (p : Int) < (P.length : Int) := by omega
              have HN1' : Hid (p + 1 = (pt (D.take (k + 1)) m).length) := by unfold Hid; omega
              have HN2' : Hid (q = (pt (D.take (k + 1)) m').length) := by unfold Hid; omega
              generalize D[k] = s at *
              clear HN1 HN2 hxe hbit h2 hx hkm
              go_wp2_with fail
              go_quiet (fail)
              clear y0 y1 cA cD
              go_wp2_with fail
              go_roundw
              case rel => exact ⟨k + 1, p + 1, q, by omega, by go_num, by go_num, rfl, HN1', HN2', by omega, by omega, below_drewN HW.out _⟩
              case measure => simp [intOf]; omega
          · have HPe : Hid (p = P.length) := by rw [HPp.out, HPa.out, List.take_of_length_le (by omega)]; rfl
            have HQe : Hid (q = Q.length) := by rw [HQq.out, HPb.out, List.take_of_length_le (by omega)]; rfl
            have i1 : ((p : Int) == (P.length : Int)) = true := by rw [HPe.out]; simp
            have i2 : ((q : Int) == (Q.length : Int)) = true := by rw [HQe.out]; simp
            have HW0 : Hid (Below w.heap.size w wr) := HB3.out.trans (HW.out.mono HB3.out.size)
            clear HIA HIB HNA HNB HOB
            go_wp2_with fail
            refine (alive_any _).mono ?_
            rintro e w4 ⟨rfl, hb4⟩
            have HB4 : Hid (Below w.heap.size w w4) := HW0.out.trans (hb4.mono HW0.out.size)
            have HC4 := (HRC.out.below HW.out).below hb4
            have HD4 := HD.out.below HB4.out
            clear hb4
            go_wp2_with fail
            refine (order_any _ _ D D _ HC4 HD4).mono ?_
            rw [(cmpL_zero D D).2 rfl]
            rintro e w5 ⟨rfl, hb5⟩
            have HB5 : Hid (Below w.heap.size w w5) := HB4.out.trans (hb5.mono HB4.out.size)
            clear hb5 HC4 HD4
            go_wp2_with fail
            go_ret
            exact ⟨rfl, HB5.out⟩
end Go.Proofs.Ytbcdmammedabmaa
