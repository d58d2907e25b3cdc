/- The reference's Print. -/
import Derived.Test.YtldbglkapopbiaaXE1
namespace Go.Proofs.Ytldbglkapopbiaa
open Go.RowKit

theorem dv_congr {x y : Int} (h : (x - y) % 340282366920938463463374607431768211456 = 0) : dv x = dv y := by
  have e := halves_mod x y h
  have hd : ∀ j, dF x j = dF y j := by
    intro j
    unfold dF uhD
    rw [e.1, e.2]
  unfold dv dvL
  congr 2
  exact List.map_congr_left (fun j _ => by rw [hd])
set_option maxRecDepth 100000 in
set_option maxHeartbeats 1000000 in
theorem refPrint_any (x : Int) (x1 : -170141183460469231731687303715884105728 ≤ x) (x2 : x < 170141183460469231731687303715884105728) (w : World) :
    Calls Try.prog 19 #[.agg #[.int .i64 (hi x), .int .u64 (lo x)]] w fun e w' => e = .returned (.string ⟨(pr x).toArray⟩) ∧ Below w.heap.size w w' := by
  have HN := hi_neg x x1 x2
  by_cases h : x < 0
  · have hn : hi x < 0 := HN.2 h
    have HP : Hid (pr x = 45 :: decs (-x).toNat (dl (-x).toNat)) := by unfold Hid pr; rw [if_pos h]
    have HE : Hid (dv (-x) = dv ((-x).toNat : Int)) := dv_congr (by rw [show (-x) - ((-x).toNat : Int) = 0 by omega]; rfl)
    obtain ⟨n, Hn⟩ := hid_exd (-x).toNat
    rw [← Hn.out] at HP HE
    have hnb : n < 340282366920938463463374607431768211456 := by rw [Hn.out]; omega
    clear HN h
    go_enter Try.func19, Try.ntmps19
    go_wp2_with fail
    refine (refMinus_any x _).mono ?_
    rintro e w1 ⟨rfl, hb1⟩
    have HB1 : Hid (Below w.heap.size w w1) := ((Below.refl _ _).alloc (Nat.le_refl _) _).trans (hb1.mono (by simp))
    clear hb1
    go_wp2_with fail
    refine (digits_dv (-x) _).mono ?_
    rintro e w2 ⟨rfl, hb2⟩
    have HB2 : Hid (Below w.heap.size w w2) := HB1.out.trans (hb2.mono HB1.out.size)
    clear hb2
    rw [HE.out]
    go_wp2_with fail
    refine (decimal_any n hnb _).mono ?_
    rintro e w3 ⟨rfl, hb3⟩
    have HB3 : Hid (Below w.heap.size w w3) := HB2.out.trans (hb3.mono HB2.out.size)
    clear hb3
    obtain ⟨S, HS⟩ := hid_exd (⟨(decs n (dl n)).toArray⟩ : ByteArray)
    have hS : S.size ≤ 40 := by
      have hl := pr_len x x1 x2
      rw [HP.out, List.length_cons] at hl
      rw [HS.out]
      show (decs n (dl n)).toArray.size ≤ 40
      simp
      omega
    rw [← HS.out]
    go_wp2_with fail
    go_ret
    refine ⟨?_, HB3.out⟩
    rw [HP.out]
    show Ending.returned (Value.string ((⟨#[45]⟩ : ByteArray) ++ S)) = _
    rw [HS.out]
    congr 2
  · have hn : ¬ hi x < 0 := fun e => h (HN.1 e)
    have HP : Hid (pr x = decs x.toNat (dl x.toNat)) := by unfold Hid pr; rw [if_neg h]
    have HE : Hid (dv x = dv (x.toNat : Int)) := dv_congr (by rw [show x - (x.toNat : Int) = 0 by omega]; rfl)
    obtain ⟨n, Hn⟩ := hid_exd x.toNat
    rw [← Hn.out] at HP HE
    have hnb : n < 340282366920938463463374607431768211456 := by rw [Hn.out]; omega
    clear HN h
    go_enter Try.func19, Try.ntmps19
    go_wp2_with fail
    refine (digits_dv x _).mono ?_
    rintro e w2 ⟨rfl, hb2⟩
    have HB2 : Hid (Below w.heap.size w w2) := ((Below.refl _ _).alloc (Nat.le_refl _) _).trans (hb2.mono (by simp))
    clear hb2
    rw [HE.out]
    go_wp2_with fail
    refine (decimal_any n hnb _).mono ?_
    rintro e w3 ⟨rfl, hb3⟩
    have HB3 : Hid (Below w.heap.size w w3) := HB2.out.trans (hb3.mono HB2.out.size)
    clear hb3
    go_wp2_with fail
    go_ret
    exact ⟨by rw [HP.out]; rfl, HB3.out⟩
end Go.Proofs.Ytldbglkapopbiaa
