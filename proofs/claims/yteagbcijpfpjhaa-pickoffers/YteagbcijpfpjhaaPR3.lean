/- The reference's Right. -/
import Derived.Test.YteagbcijpfpjhaaPK14
namespace Go.Proofs.Yteagbcijpfpjhaa
open Go.RowKit Go.Shelf

set_option maxRecDepth 100000 in
set_option maxHeartbeats 4000000 in
theorem refRight_any (v : Value) (L : List Rn) (w : World) (hR : NReads w v L) : Calls Try.prog 14 #[v] w fun e w' => e = .returned (.bool (okB L)) ∧ Below w.heap.size w w' := by
  have HR : Hid (NReads w v L) := hR
  obtain ⟨a, cap, rfl, hl1, hl2⟩ := hR.form
  clear hR
  unfold maxLen at hl2
  obtain ⟨res, HRes⟩ := hid_ex (okB L)
  rw [← HRes.out]
  by_cases h64 : L.length ≤ 64
  · go_enter Try.func14, Try.ntmps14
    go_wp2_with fail
    go_loopw [3] (fun i wr => ∃ k : Nat, k ≤ L.length ∧ i = .int .i64 (k : Int) ∧ Hid (∀ j (hj : j < L.length), j < k → one L[j] ∧ ∀ i (hi : i < j), apart L[i] L[j]) ∧ Hid (Below w.heap.size w wr)) (fun i _ => L.length - (intOf i).toNat)
    case atStart => exact ⟨0, by omega, rfl, fun j hj h => absurd h (by omega), Below.refl _ _⟩
    case round =>
      obtain ⟨k, hk, rfl, HP, HB⟩ := hrel
      generalize wr = W at *
      by_cases hlt : k < L.length
      · obtain ⟨b, off, rfl, hb⟩ := HR.out.ptr (by omega)
        obtain ⟨r, Hr⟩ := hid_ex L[k]
        obtain ⟨c0, c1, c2, c3⟩ := (HR.out.below HB.out).four hlt r Hr.out
        by_cases hone : one r
        · obtain ⟨ho1, ho2, ho3, ho4⟩ := id hone
          have HO : Hid (one r) := hone
          have hd1 : decide (r.f ≤ 0) = false := decide_eq_false (by omega)
          have hd2 : decide (r.l < 0) = false := decide_eq_false (by omega)
          have hd3 : decide (3 < r.l) = false := decide_eq_false (by omega)
          have hd4 : decide (r.c ≤ 0) = false := decide_eq_false (by omega)
          clear hone
          go_wp2_with fail
          clear hd1 hd2 hd3 hd4 c0 c1 c2 c3
          go_loopw [4] (fun i wq => ∃ j : Nat, j ≤ k ∧ i = .int .i64 (j : Int) ∧ Hid (∀ i (hi : i < L.length), i < j → apart L[i] r) ∧ Hid (Below w.heap.size w wq)) (fun i _ => k - (intOf i).toNat)
          case atStart => exact ⟨0, by omega, rfl, fun j hj h => absurd h (by omega), HB.out⟩
          case round =>
            obtain ⟨j, hj, rfl, HA, HBq⟩ := hrel
            by_cases hjk : j < k
            · obtain ⟨c0, c1, _, _⟩ := (HR.out.below HBq.out).four hlt r Hr.out
              obtain ⟨o, Ho⟩ := hid_ex (L[j]'(by omega))
              obtain ⟨d0, d1, _, _⟩ := (HR.out.below HBq.out).four (j := j) (by omega) o Ho.out
              by_cases hff : o.f = r.f
              · have hbf : (o.f == r.f) = true := by simpa using hff
                have HF : Hid (okB L = false) := okR_not hlt (fun h => by
                  have h1 := (h.2 j hjk).1
                  rw [← Ho.out, ← Hr.out] at h1
                  exact h1 hff)
                clear hff
                go_wp2_with fail
                go_quiet (fail)
                have HBn : Hid (Below w.heap.size w (wr.drewN nq)) := below_drewN HBq.out nq
                go_wp2_with fail
                go_ret
                refine ⟨?_, HBn.out⟩
                rw [HRes.out, HF.out]
                rfl
              · have hbf : (o.f == r.f) = false := by simpa using hff
                by_cases hll : o.l = r.l
                · have hbl : (o.l == r.l) = true := by simpa using hll
                  by_cases hl9 : r.l = 0
                  · have hbz : (r.l == 0) = true := by simpa using hl9
                    have HN : Hid (∀ i (hi : i < L.length), i < j + 1 → apart L[i] r) := by
                      intro i hi hij
                      rcases Nat.lt_or_ge i j with h9 | h9
                      · exact HA.out i hi h9
                      · obtain rfl : i = j := by omega
                        rw [← Ho.out]
                        exact ⟨hff, fun h => by have := h.1; omega⟩
                    clear hff hll hl9
                    go_wp2_with fail
                    go_quiet (fail)
                    have HBn : Hid (Below w.heap.size w (wr.drewN nq)) := below_drewN HBq.out nq
                    go_wp2_with fail
                    go_roundw
                    case rel => exact ⟨j + 1, by omega, by go_num, HN.out, HBn.out⟩
                    case measure => simp [intOf]; omega
                  · have hbz : (r.l == 0) = false := by simpa using hl9
                    have HF : Hid (okB L = false) := okR_not hlt (fun h => by
                      have h1 := (h.2 j hjk).2
                      rw [← Ho.out, ← Hr.out] at h1
                      exact h1 ⟨by omega, hll⟩)
                    clear hff hll hl9
                    go_wp2_with fail
                    go_quiet (fail)
                    have HBn : Hid (Below w.heap.size w (wr.drewN nq)) := below_drewN HBq.out nq
                    go_wp2_with fail
                    go_ret
                    refine ⟨?_, HBn.out⟩
                    rw [HRes.out, HF.out]
                    rfl
                · have hbl : (o.l == r.l) = false := by simpa using hll
                  have HN : Hid (∀ i (hi : i < L.length), i < j + 1 → apart L[i] r) := by
                    intro i hi hij
                    rcases Nat.lt_or_ge i j with h9 | h9
                    · exact HA.out i hi h9
                    · obtain rfl : i = j := by omega
                      rw [← Ho.out]
                      exact ⟨hff, fun h => hll h.2⟩
                  clear hff hll
                  go_wp2_with fail
                  go_quiet (fail)
                  have HBn : Hid (Below w.heap.size w (wr.drewN nq)) := below_drewN HBq.out nq
                  go_wp2_with fail
                  go_roundw
                  case rel => exact ⟨j + 1, by omega, by go_num, HN.out, HBn.out⟩
                  case measure => simp [intOf]; omega
            · have HN : Hid (∀ j (hj : j < L.length), j < k + 1 → one L[j] ∧ ∀ i (hi : i < j), apart L[i] L[j]) := by
                intro j' hj' hjk'
                rcases Nat.lt_or_ge j' k with h9 | h9
                · exact HP.out j' hj' h9
                · obtain rfl : j' = k := by omega
                  rw [← Hr.out]
                  exact ⟨HO.out, fun i hi => HA.out i (by omega) (by omega)⟩
              go_wp2_with fail
              go_roundw
              case rel => exact ⟨k + 1, by omega, by go_num, HN.out, HBq.out⟩
              case measure => simp [intOf]; omega
        · have HF : Hid (okB L = false) := okR_not hlt (fun h => by
            have h1 := h.1
            rw [← Hr.out] at h1
            exact hone h1)
          by_cases h1 : r.f ≤ 0
          · go_wp2_with fail
            go_ret
            refine ⟨?_, HB.out⟩
            rw [HRes.out, HF.out]
            rfl
          · have hd1 : decide (r.f ≤ 0) = false := decide_eq_false h1
            by_cases h2 : r.l < 0
            · go_wp2_with fail
              go_ret
              refine ⟨?_, HB.out⟩
              rw [HRes.out, HF.out]
              rfl
            · by_cases h3 : 3 < r.l
              · go_wp2_with fail
                go_ret
                refine ⟨?_, HB.out⟩
                rw [HRes.out, HF.out]
                rfl
              · have h4 : r.c ≤ 0 := by
                  rcases Int.lt_or_le 0 r.c with h9 | h9
                  · exact absurd ⟨by omega, by omega, by omega, by omega⟩ hone
                  · exact h9
                go_wp2_with fail
                go_ret
                refine ⟨?_, HB.out⟩
                rw [HRes.out, HF.out]
                rfl
      · go_wp2_with fail
        go_ret
        refine ⟨?_, HB.out⟩
        rw [HRes.out, okB_true ((okR_iff L).2 ⟨h64, fun j hj => HP.out j hj (by omega)⟩)]
        rfl
  · go_enter Try.func14, Try.ntmps14
    go_wp2_with fail
    go_ret
    refine ⟨?_, Below.refl _ _⟩
    rw [HRes.out, okB_false (fun h => by have := h.1; omega)]
    rfl
end Go.Proofs.Yteagbcijpfpjhaa
