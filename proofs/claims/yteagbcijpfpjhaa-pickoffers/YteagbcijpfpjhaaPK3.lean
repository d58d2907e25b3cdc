/- The contract of Right. -/
import Derived.Test.YteagbcijpfpjhaaPK2
namespace Go.Proofs.Yteagbcijpfpjhaa
open Go.RowKit

set_option maxRecDepth 100000 in
set_option maxHeartbeats 2000000 in
theorem right_any (v : Value) (L : List Rn) (w : World) (hR : NReads w v L) : Calls Try.prog 13 #[v] w fun e w' => e = .returned (.bool (okB L)) ∧ Below w.heap.size w w' := by
  have HR : Hid (NReads w v L) := hR
  obtain ⟨a, cap, rfl, hl1, hl2⟩ := hR.form
  clear hR
  unfold maxLen at hl2
  obtain ⟨res, HRes⟩ := hid_ex (okB L)
  rw [← HRes.out]
  by_cases h64 : L.length ≤ 64
  · go_enter Try.func13, Try.ntmps13
    go_wp2_with fail
    go_loopw [12] (fun i wr => ∃ k : Nat, k ≤ L.length ∧ i = .int .i64 (k : Int) ∧ Hid (∀ j (hj : j < L.length), j < k → one L[j] ∧ ∀ i (hi : i < j), apart L[i] L[j]) ∧ Hid (Below w.heap.size w wr)) (fun i _ => L.length - (intOf i).toNat)
    case atStart => exact ⟨0, by omega, rfl, fun j hj h => absurd h (by omega), Below.refl _ _⟩
    case round =>
      obtain ⟨k, hk, rfl, HP, HB⟩ := hrel
      by_cases hlt : k < L.length
      · obtain ⟨b, off, rfl, hb⟩ := HR.out.ptr (by omega)
        obtain ⟨r, Hr⟩ := hid_ex L[k]
        obtain ⟨c0, c1, c2, c3⟩ := (HR.out.below HB.out).four hlt r Hr.out
        obtain ⟨pa, pc, hsl, hsr⟩ := nsl_upto HR.out (d := k) (by omega)
        have HSR : Hid (NReads w (.slice pa k pc) (L.take k)) := hsr
        clear hsr
        go_wp2_with (refine stop_store 48 _ _ rfl ?_)
        refine Stop.of ?_
        refine wpList_storeN rfl _ _ _ rfl wr.heap.size 0 (r4 r) rfl rfl _ _ (heap_alloc_new _ _) (by rw [r4_len]; simp) (by kernel_rfl) (by kernel_rfl) ?_
        intro W hW
        obtain ⟨hbW, hxW, hlW⟩ := stW_new hW (by simp [r4_len])
        have HBW : Hid (Below w.heap.size w W) := HB.out.trans (hbW.mono HB.out.size)
        have HX : Hid _ := hxW
        obtain ⟨d0, d1, d2, d3⟩ := box4 hxW
        clear hW hbW hxW c0 c1 c2 c3
        by_cases hf : 1 ≤ r.f
        · by_cases hlv : 0 ≤ r.l ∧ r.l ≤ 3
          · by_cases hc : 1 ≤ r.c
            · have HO : Hid (one r) := ⟨hf, hlv.1, hlv.2, hc⟩
              have hdl : decide (0 ≤ r.l ∧ r.l ≤ 3) = true := decide_eq_true hlv
              go_wp2_with fail
              refine (isLevel_any _ _).mono ?_
              rw [hdl]
              rintro e w' ⟨rfl, hw'⟩
              subst w'
              go_wp2_with fail
              obtain ⟨hl0, hl3⟩ := hlv
              go_loopw [35] (fun i wq => ∃ j : Nat, j ≤ k ∧ i = .int .i64 (j : Int) ∧ Hid (∀ i (hi : i < L.length), i < j → apart L[i] r) ∧ Hid (Below W.heap.size W wq)) (fun i _ => k - (intOf i).toNat)
              case atStart => exact ⟨0, by omega, rfl, fun j hj h => absurd h (by omega), Below.refl _ _⟩
              case round =>
                obtain ⟨j, hj, rfl, HA, HBq⟩ := hrel
                by_cases hjk : j < k
                · obtain ⟨pb, po, rfl, hpb⟩ := HSR.out.ptr (by simp; omega)
                  have hjl : j < (L.take k).length := by simp; omega
                  obtain ⟨o, Ho⟩ := hid_ex (L.take k)[j]
                  have HBn : Hid (Below w.heap.size w wr) := HBW.out.trans (HBq.out.mono HBW.out.size)
                  obtain ⟨c0, c1, c2, c3⟩ := (HSR.out.below HBn.out).four hjl o Ho.out
                  have HoL : Hid (o = L[j]'(by omega)) := by
                    unfold Hid
                    rw [Ho.out]
                    simp
                  clear hjl Ho
                  go_wp2_with (refine stop_store 48 _ _ rfl ?_)
                  refine Stop.of ?_
                  refine wpList_storeN rfl _ _ _ rfl wr.heap.size 0 (r4 o) rfl rfl _ _ (heap_alloc_new _ _) (by rw [r4_len]; simp) (by kernel_rfl) (by kernel_rfl) ?_
                  intro V hV
                  obtain ⟨hbV, hxV, hlV⟩ := stW_new hV (by simp [r4_len])
                  have HBV : Hid (Below W.heap.size W V) := HBq.out.trans (hbV.mono HBq.out.size)
                  have HBv : Hid (Below w.heap.size w V) := HBW.out.trans (HBV.out.mono HBW.out.size)
                  have hXV := (HBV.out.block _ hlW).trans HX.out
                  obtain ⟨f0, f1, f2, f3⟩ := box4 hxV
                  obtain ⟨d0, d1, d2, d3⟩ := box4 hXV
                  clear hV hbV hxV c0 c1 c2 c3 hXV
                  by_cases hff : o.f = r.f
                  · have hbf : (o.f == r.f) = true := by simpa using hff
                    have HF : Hid (okB L = false) := okR_not hlt (fun h => by
                      have h1 := (h.2 j hjk).1
                      rw [← HoL.out, ← Hr.out] at h1
                      exact h1 hff)
                    clear hff
                    go_wp2_with fail
                    go_ret
                    refine ⟨?_, HBv.out⟩
                    rw [HRes.out, HF.out]
                    rfl
                  · have hbf : (o.f == r.f) = false := by simpa using hff
                    by_cases hl9 : 0 < r.l
                    · by_cases hll : o.l = r.l
                      · have hbl : (o.l == r.l) = true := by simpa using hll
                        have HF : Hid (okB L = false) := okR_not hlt (fun h => by
                          have h1 := (h.2 j hjk).2
                          rw [← HoL.out, ← Hr.out] at h1
                          exact h1 ⟨hl9, hll⟩)
                        clear hff hll
                        go_wp2_with fail
                        go_ret
                        refine ⟨?_, HBv.out⟩
                        rw [HRes.out, HF.out]
                        rfl
                      · have hbl : (o.l == r.l) = false := by simpa using hll
                        have HN : Hid (∀ i (hi : i < L.length), i < j + 1 → apart L[i] r) := by
                          intro i hi hij
                          rcases Nat.lt_or_ge i j with h9 | h9
                          · exact HA.out i hi h9
                          · obtain rfl : i = j := by omega
                            rw [← HoL.out]
                            exact ⟨hff, fun h => hll h.2⟩
                        clear hff hll
                        go_wp2_with fail
                        go_roundw
                        case rel => exact ⟨j + 1, by omega, by go_num, HN.out, HBV.out⟩
                        case measure => simp [intOf]; omega
                    · have HN : Hid (∀ i (hi : i < L.length), i < j + 1 → apart L[i] r) := by
                        intro i hi hij
                        rcases Nat.lt_or_ge i j with h9 | h9
                        · exact HA.out i hi h9
                        · obtain rfl : i = j := by omega
                          rw [← HoL.out]
                          exact ⟨hff, fun h => hl9 h.1⟩
                      clear hff
                      go_wp2_with fail
                      go_roundw
                      case rel => exact ⟨j + 1, by omega, by go_num, HN.out, HBV.out⟩
                      case measure => simp [intOf]; omega
                · have HN : Hid (∀ j (hj : j < L.length), j < k + 1 → one L[j] ∧ ∀ i (hi : i < j), apart L[i] L[j]) := by
                    intro j' hj' hjk'
                    rcases Nat.lt_or_ge j' k with h9 | h9
                    · exact HP.out j' hj' h9
                    · obtain rfl : j' = k := by omega
                      rw [← Hr.out]
                      exact ⟨HO.out, fun i hi => HA.out i (by omega) (by omega)⟩
                  have HBn : Hid (Below w.heap.size w wr) := HBW.out.trans (HBq.out.mono HBW.out.size)
                  go_wp2_with fail
                  go_roundw
                  case rel => exact ⟨k + 1, by omega, by go_num, HN.out, HBn.out⟩
                  case measure => simp [intOf]; omega
            · have HF : Hid (okB L = false) := okR_not hlt (fun h => by
                have h1 := h.1
                rw [← Hr.out] at h1
                exact hc h1.2.2.2)
              have hdl : decide (0 ≤ r.l ∧ r.l ≤ 3) = true := decide_eq_true hlv
              go_wp2_with fail
              refine (isLevel_any _ _).mono ?_
              rw [hdl]
              rintro e w' ⟨rfl, hw'⟩
              subst w'
              go_wp2_with fail
              go_ret
              refine ⟨?_, HBW.out⟩
              rw [HRes.out, HF.out]
              rfl
          · have HF : Hid (okB L = false) := okR_not hlt (fun h => by
              have h1 := h.1
              rw [← Hr.out] at h1
              exact hlv ⟨h1.2.1, h1.2.2.1⟩)
            have hdl : decide (0 ≤ r.l ∧ r.l ≤ 3) = false := decide_eq_false hlv
            go_wp2_with fail
            refine (isLevel_any _ _).mono ?_
            rw [hdl]
            rintro e w' ⟨rfl, hw'⟩
            subst w'
            go_wp2_with fail
            go_ret
            refine ⟨?_, HBW.out⟩
            rw [HRes.out, HF.out]
            rfl
        · have HF : Hid (okB L = false) := okR_not hlt (fun h => by
            have h1 := h.1
            rw [← Hr.out] at h1
            exact hf h1.1)
          go_wp2_with fail
          go_ret
          refine ⟨?_, HBW.out⟩
          rw [HRes.out, HF.out]
          rfl
      · go_wp2_with fail
        go_ret
        refine ⟨?_, HB.out⟩
        rw [HRes.out, okB_true ((okR_iff L).2 ⟨h64, fun j hj => HP.out j hj (by omega)⟩)]
        rfl
  · go_enter Try.func13, Try.ntmps13
    go_wp2_with fail
    go_ret
    refine ⟨?_, Below.refl _ _⟩
    rw [HRes.out, okB_false (fun h => by have := h.1; omega)]
    rfl
end Go.Proofs.Yteagbcijpfpjhaa
