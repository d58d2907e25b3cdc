/- The walk of CrcXor. -/
import Derived.Test.YtfhjhlddbcgfeaaV6
import Derived.Test.YtfhjhlddbcgfeaaV8
import Derived.Test.YtfhjhlddbcgfeaaOB
import Derived.BigRegion
namespace Go.Proofs.Ytfhjhlddbcgfeaa
open Go.RowKit

/-- Bytes xor'ed. -/
def xl : List UInt8 → List UInt8 → List UInt8
  | x :: a, y :: b => UInt8.ofNat (x.toNat ^^^ y.toNat) :: xl a b
  | _, _ => []
theorem vle_xl (a : List UInt8) : ∀ b, a.length = b.length → vle (xl a b) = vle a ^^^ vle b ∧ (xl a b).length = a.length := by
  induction a with
  | nil => intro b h; cases b with
    | nil => exact ⟨rfl, rfl⟩
    | cons y b => simp at h
  | cons x a ih =>
    intro b h
    cases b with
    | nil => simp at h
    | cons y b =>
      obtain ⟨h1, h2⟩ := ih b (by simpa using h)
      have e1 : (UInt8.ofNat (x.toNat ^^^ y.toNat)).toNat = x.toNat ^^^ y.toNat := by
        rw [UInt8.toNat_ofNat']; exact Nat.mod_eq_of_lt (Nat.xor_lt_two_pow x.toNat_lt y.toNat_lt)
      refine ⟨?_, by simp [xl, h2]⟩
      rw [xl, vle_cons, vle_cons, vle_cons, e1, h1, pow_mul_xor]
      rw [Nat.xor_assoc, Nat.xor_assoc, ← Nat.xor_assoc y.toNat, ← Nat.xor_assoc (2 ^ 8 * vle a), Nat.xor_comm y.toNat]
theorem mor_xor (l : List UInt8) : mor 0 l = 4294967295 ^^^ stps (8 * l.length) (4294967295 ^^^ vle l) := by
  have h := reg_lt l (c := 4294967295) (by decide)
  rw [mor, Nat.sub_zero, not32 h, reg_eq]
theorem mor_three (a b c : List UInt8) (hb : b.length = a.length) (hc : c.length = a.length) : mor 0 (xl (xl a b) c) = mor 0 a ^^^ mor 0 b ^^^ mor 0 c := by
  obtain ⟨h1, h2⟩ := vle_xl a b hb.symm
  obtain ⟨h3, h4⟩ := vle_xl (xl a b) c (by rw [h2, hc])
  rw [mor_xor, mor_xor, mor_xor, mor_xor, h4, h2, hb, hc, h3, h1]
  generalize 8 * a.length = n
  simp only [stps_xor]
  generalize stps n 4294967295 = I
  generalize stps n (vle a) = A
  generalize stps n (vle b) = B
  generalize stps n (vle c) = C
  rw [show (4294967295 ^^^ (I ^^^ A)) ^^^ (4294967295 ^^^ (I ^^^ B)) = A ^^^ B by
    rw [Nat.xor_comm 4294967295 (I ^^^ A), Nat.xor_comm 4294967295 (I ^^^ B), xor4, Nat.xor_comm I A, Nat.xor_comm I B, xor4]]
  rw [← Nat.xor_assoc, ← Nat.xor_assoc, ← Nat.xor_assoc, ← Nat.xor_assoc, Nat.xor_comm (A ^^^ B) 4294967295]
  rw [Nat.xor_assoc (4294967295 ^^^ I), Nat.xor_assoc 4294967295 I, Nat.xor_comm I (A ^^^ B), ← Nat.xor_assoc 4294967295, Nat.xor_assoc _ I C]
theorem xl_get (a : List UInt8) : ∀ b (k : Nat) (h : k < a.length) (h' : k < b.length) (h2 : k < (xl a b).length), (xl a b)[k] = UInt8.ofNat (a[k].toNat ^^^ b[k].toNat) := by
  induction a with
  | nil => intro b k h; simp at h
  | cons x a ih =>
    intro b k h h' h2
    cases b with
    | nil => simp at h'
    | cons y b =>
      cases k with
      | zero => rfl
      | succ k =>
        simp only [xl, List.getElem_cons_succ]
        exact ih b k (by simpa using h) (by simpa using h') _
theorem x8 (x y : UInt8) : bits .xor .u8 (x.toNat : Int) (y.toNat : Int) = ((UInt8.ofNat (x.toNat ^^^ y.toNat)).toNat : Int) := by
  rw [u8_xor_nat _ _ x.toNat_lt y.toNat_lt, UInt8.toNat_ofNat', Nat.mod_eq_of_lt (Nat.xor_lt_two_pow x.toNat_lt y.toNat_lt)]
theorem set_mid {X L : List UInt8} {k : Nat} (h : k < L.length) (hX : X.length = L.length) : (X.take k ++ L.drop k).set k (X[k]'(by omega)) = X.take (k + 1) ++ L.drop (k + 1) := by
  rw [List.set_append_right _ _ (by simp; omega)]
  have e : k - (X.take k).length = 0 := by simp; omega
  rw [e, List.drop_eq_getElem_cons h, List.set_cons_zero, List.take_succ_eq_append_getElem (by omega), List.append_assoc]
  rfl
theorem get_mid {X L : List UInt8} {k : Nat} (h : k < L.length) (hX : X.length = L.length) (h2 : k < (X.take k ++ L.drop k).length) : (X.take k ++ L.drop k)[k] = L[k] := by
  rw [List.getElem_append_right (by simp; omega)]
  simp
  congr 1; omega
set_option maxRecDepth 100000 in
set_option maxHeartbeats 1000000 in
theorem xor_walk (va : Value) (la : List UInt8) (vb : Value) (lb : List UInt8) (vc : Value) (lc : List UInt8) (w : World) (ha : Reads w va la) (hb : Reads w vb lb) (hc : Reads w vc lc) :
    Calls Try.prog 8 #[va, vb, vc] w fun e w' => e = .returned (.bool true) ∧ Below w.heap.size w w' := by
  obtain ⟨aa, ca, rfl, hma⟩ := ha.form
  obtain ⟨ab, cb, rfl, hmb⟩ := hb.form
  obtain ⟨ac, cc, rfl, hmc⟩ := hc.form
  unfold maxLen at hma hmb hmc
  by_cases g : (2000 : Int) < (la.length : Int) ∨ lb.length ≠ la.length ∨ lc.length ≠ la.length
  · by_cases g1 : (2000 : Int) < (la.length : Int) <;> by_cases g2 : ((lb.length : Int) != (la.length : Int)) = true <;> by_cases g3 : ((lc.length : Int) != (la.length : Int)) = true
    all_goals first
      | (exfalso; simp at g2 g3; omega)
      | (clear ha hb hc g
         go_enter Try.func8, Try.ntmps8
         go_wp2_with fail
         refine (alive_any _).mono ?_
         rintro e w1 ⟨rfl, hb1⟩
         go_wp2_with fail
         go_ret
         exact ⟨rfl, hb1⟩)
  · have g1 : ¬ (2000 : Int) < (la.length : Int) := by omega
    have e1 : lb.length = la.length := by omega
    have e2 : lc.length = la.length := by omega
    clear g
    rw [e1, e2]
    rw [e1] at hb
    rw [e2] at hc
    obtain ⟨X, HX⟩ := hid_ex (xl (xl la lb) lc)
    have HL : Hid (X.length = la.length) := by
      have h2 := (vle_xl la lb e1.symm).2
      rw [HX.out, Hid, (vle_xl (xl la lb) lc (by rw [h2, e2])).2, h2]
    have HM3 : Hid (mor 0 X = mor 0 la ^^^ mor 0 lb ^^^ mor 0 lc) := by rw [HX.out]; exact mor_three la lb lc e1 e2
    have HXK : Hid (∀ k (h : k < la.length), X[k]'(by rw [HL.out]; exact h) = UInt8.ofNat ((UInt8.ofNat (la[k].toNat ^^^ (lb[k]'(by omega)).toNat)).toNat ^^^ (lc[k]'(by omega)).toNat)) := by
      intro k h
      have h2 := (vle_xl la lb e1.symm).2
      have h3 := (vle_xl (xl la lb) lc (by rw [h2, e2])).2
      have := HX.out
      subst this
      rw [xl_get (xl la lb) lc k (by omega) (by omega) (by omega), xl_get la lb k h (by omega) (by omega)]
    clear HX
    go_enter Try.func8, Try.ntmps8
    go_wp2_with fail
    refine (copy_any _ la (by omega) _ ha).mono ?_
    rintro e w1 ⟨v1, rfl, HO1, hb1⟩
    have HB1 : Hid (Below w.heap.size w w1) := hb1
    obtain ⟨a1, c1, rfl, _⟩ := HO1.form
    clear hb1
    have HA : Hid (Reads w (.slice aa la.length ca) la) := ha
    have HBb : Hid (Reads w (.slice ab la.length cb) lb) := hb
    have HCc : Hid (Reads w (.slice ac la.length cc) lc) := hc
    clear ha hb hc
    go_wp2_with fail
    go_loopw [8] (fun i wr => ∃ (k : Nat), k ≤ la.length ∧ i = .int .i64 (k : Int) ∧ Hid (Own wr w.heap.size (.slice a1 la.length c1) (X.take k ++ la.drop k)) ∧ Hid (Below w.heap.size w wr)) (fun i _ => la.length - (intOf i).toNat)
    case atStart => exact ⟨0, by omega, rfl, by rw [List.take_zero, List.drop_zero, List.nil_append]; exact HO1, HB1⟩
    case round =>
      obtain ⟨k, hk, rfl, HR, HB⟩ := hrel
      by_cases hlt : k < la.length
      · have hXl := HL.out
        have hkd : k < (X.take k ++ la.drop k).length := by simp; omega
        obtain ⟨gb, cp, hv, hg1, hg2, _, _⟩ := HR.out.some (by omega)
        simp only [Value.slice.injEq] at hv
        obtain ⟨rfl, hv2, hv3⟩ := hv
        clear hv2 hv3
        obtain ⟨hc1, hf1⟩ := HR.out.at k hkd
        rw [get_mid hlt hXl] at hc1
        obtain ⟨bb, ob, rfl, hbb, hcb⟩ := HBb.out.at k (by omega)
        obtain ⟨bc', oc, rfl, hbc, hcc⟩ := HCc.out.at k (by omega)
        obtain ⟨x, y, z, u, t, i1, i2, i3, HST, y1, y2⟩ : ∃ x y z u t : UInt8, wr.cell? ⟨gb, k, none⟩ = some (.int .u8 (x.toNat : Int)) ∧ wr.cell? ⟨bb, ob + k, none⟩ = some (.int .u8 (y.toNat : Int)) ∧ wr.cell? ⟨bc', oc + k, none⟩ = some (.int .u8 (z.toNat : Int)) ∧ Hid (Own (wr.setCell ⟨gb, k, none⟩ (.int .u8 (t.toNat : Int))) w.heap.size (.slice (some ⟨gb, 0, none⟩) la.length c1) (X.take (k + 1) ++ la.drop (k + 1)) ∧ Below w.heap.size wr (wr.setCell ⟨gb, k, none⟩ (.int .u8 (t.toNat : Int)))) ∧ bits .xor .u8 (x.toNat : Int) (y.toNat : Int) = (u.toNat : Int) ∧ bits .xor .u8 (u.toNat : Int) (z.toNat : Int) = (t.toNat : Int) := by
          have hst := HR.out.stored k (X[k]'(by omega))
          rw [set_mid hlt hXl] at hst
          have y2 := x8 (UInt8.ofNat (la[k].toNat ^^^ (lb[k]'(by omega)).toNat)) (lc[k]'(by omega))
          rw [← HXK.out k hlt] at y2
          exact ⟨la[k], lb[k]'(by omega), lc[k]'(by omega), _, X[k]'(by omega), hc1, (HB.out.cell (p := ⟨bb, ob + k, none⟩) hbb).trans hcb, (HB.out.cell (p := ⟨bc', oc + k, none⟩) hbc).trans hcc, hst, x8 _ _, y2⟩
        have n1 : ¬ gb = bb := by omega
        have n2 : ¬ gb = bc' := by omega
        clear hcb hcc hXl hc1 hkd
        go_wp2_with fail
        go_region
        clear i1 i2 i3 y1 y2 hf1
        go_wp2_with fail
        go_roundw
        case rel => exact ⟨k + 1, by omega, by go_num, HST.out.1, (HB.out.trans HST.out.2).drew⟩
        case measure => simp [intOf]; omega
      · have HO : Own wr w.heap.size (.slice a1 la.length c1) X := by
          have h := HR.out
          rw [List.take_of_length_le (by rw [HL.out]; omega), List.drop_eq_nil_of_le (by omega), List.append_nil] at h
          exact h
        clear HR
        have hrX := HO.reads
        go_wp2_with fail
        refine (alive_any _).mono ?_
        rintro e w3 ⟨rfl, hb3⟩
        have HB3 : Hid (Below w.heap.size w w3) := HB.out.trans (hb3.mono HB.out.size)
        have hrX3 := hrX.below hb3
        have hrA := HA.out.below HB3.out
        have hrB := HBb.out.below HB3.out
        have hrC := HCc.out.below HB3.out
        clear hb3 HO hrX
        go_wp2_with fail
        refine (sum_any _ X _ hrX3).mono ?_
        rintro e w4 ⟨rfl, hw⟩
        subst w4
        rw [HM3.out]
        go_wp2_with fail
        refine (sum_any _ la _ hrA).mono ?_
        rintro e w4 ⟨rfl, hw⟩
        subst w4
        go_wp2_with fail
        refine (sum_any _ lb _ hrB).mono ?_
        rintro e w4 ⟨rfl, hw⟩
        subst w4
        have z1 := x_xor (mor_lt 0 la) (mor_lt 0 lb)
        go_wp2_with fail
        refine (sum_any _ lc _ hrC).mono ?_
        rintro e w4 ⟨rfl, hw⟩
        subst w4
        have z2 := x_xor (xor_lt32 (mor_lt 0 la) (mor_lt 0 lb)) (mor_lt 0 lc)
        clear hrX3 hrA hrB hrC
        go_wp2_with fail
        go_ret
        exact ⟨rfl, HB3.out⟩
end Go.Proofs.Ytfhjhlddbcgfeaa
