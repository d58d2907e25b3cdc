/- The reference's Offer (written by mkpo5.py). -/
import Derived.Test.YteagbcijpfpjhaaPO2
import Derived.Test.YteagbcijpfpjhaaPO3
namespace Go.Proofs.Yteagbcijpfpjhaa
open Go.RowKit Go.Shelf

theorem both_perm (L : List Rn) {a b : Int} (hab : a ≠ b) : ((atF a L).map Rn.f ++ (atF b L).map Rn.f).Perm (pkF [a, b] L) := by
  unfold pkF
  rw [← List.map_append]
  apply List.Perm.map
  have h1 : atF a L = (L.filter fun r => has [a, b] r.l).filter fun r => decide (r.l = a) := by
    unfold atF
    rw [List.filter_filter]
    apply List.filter_congr
    intro r _
    by_cases h : r.l = a <;> simp [h, has]
  have h2 : atF b L = (L.filter fun r => has [a, b] r.l).filter fun r => !decide (r.l = a) := by
    unfold atF
    rw [List.filter_filter]
    apply List.filter_congr
    intro r _
    by_cases h : r.l = a
    · simp [h, hab, has]
    · by_cases h9 : r.l = b
      · simp [h9, has]
        exact fun e => hab e.symm
      · simp [h9, has, h]
  rw [h1, h2]
  exact List.filter_append_perm _ _
theorem both_srt (L : List Rn) {a b : Int} (hab : a ≠ b) : srt ((atF a L).map Rn.f ++ (atF b L).map Rn.f) = filF [a, b] L := srt_of_perm (both_perm L hab)
theorem ren_at (lv : Int) : ∀ (L : List Rn) (m : Int), (atF lv L).foldl (stepR lv) m = L.foldl (stepR lv) m
  | [], m => rfl
  | r :: L, m => by
    have ih := ren_at lv L
    unfold atF at ih ⊢
    rw [List.filter_cons, List.foldl_cons]
    by_cases h : r.l = lv
    · rw [if_pos (by simpa using h), List.foldl_cons, ih]
    · rw [if_neg (by simpa using h), ih]
      unfold stepR
      rw [if_neg (fun hc => h hc.1)]
theorem stT_first {L : List Rn} : ∀ {k : Nat}, (∀ j : Nat, j < k → renF L (j : Int) = 0) → stT L k = tkZ
  | 0, _ => rfl
  | k + 1, h => by
    have ih := stT_first (L := L) (k := k) (fun j hj => h j (by omega))
    rw [stT, ih, if_neg (by simp [tkZ]), renT, if_pos (h k (by omega))]
theorem stT_stay {L : List Rn} {k : Nat} (h : (stT L k).s = true) : ∀ d, stT L (k + d) = stT L k
  | 0 => rfl
  | d + 1 => by
    have ih := stT_stay h d
    rw [← Nat.add_assoc, stT, ih, if_pos h]
theorem stT_hit {L : List Rn} {k : Nat} (hk : k < 4) (h : ∀ j : Nat, j < k → renF L (j : Int) = 0) (hr : renF L (k : Int) ≠ 0) : stT L 4 = ⟨[renF L (k : Int)], (k : Int), true⟩ := by
  have h1 : stT L (k + 1) = ⟨[renF L (k : Int)], (k : Int), true⟩ := by
    rw [stT, stT_first h, if_neg (by simp [tkZ]), renT, if_neg hr]
  have h2 := stT_stay (L := L) (k := k + 1) (by rw [h1]) (4 - (k + 1))
  rw [show k + 1 + (4 - (k + 1)) = 4 by omega] at h2
  rw [h2, h1]
theorem ren_take {X : List Rn} (lv : Int) (k : Nat) (hk : k < X.length) : (X.take (k + 1)).foldl (stepR lv) 0 = stepR lv ((X.take k).foldl (stepR lv) 0) X[k] := renF_take X lv k hk
set_option maxRecDepth 100000 in
set_option maxHeartbeats 8000000 in
theorem refOffer_any (v : Value) (L : List Rn) (w : World) (hR : NReads w v L) : Calls Try.prog 12 #[v] w (OfPost L w) := by
  have HR : Hid (NReads w v L) := hR
  obtain ⟨a, cap, rfl, hl1, hl2⟩ := hR.form
  clear hR
  unfold maxLen at hl2
  obtain ⟨ok, HA⟩ := hid_ex (okB L)
  show Calls Try.prog 12 #[.slice a L.length cap] w (OfQ L w (okB L))
  rw [← HA.out]
  go_enter Try.func12, Try.ntmps12
  go_wp2_with fail
  obtain ⟨w0, HW0⟩ := hid_ex (w.alloc (.cells #[.slice none 0 0, .int .i64 0] 32))
  have HB0 : Hid (Below w.heap.size w w0) := by rw [HW0.out]; exact (Below.refl _ _).alloc (Nat.le_refl _) _
  have HX0 : Hid (w0.heap[w.heap.size]? = some (.cells #[.slice none 0 0, .int .i64 0] 32)) := by rw [HW0.out]; exact heap_alloc_new _ _
  rw [← HW0.out]
  clear HW0
  refine (refRight_any _ L _ (HR.out.below HB0.out)).mono ?_
  rw [← HA.out]
  rintro e w1 ⟨rfl, hb1⟩
  have HB1 : Hid (Below w.heap.size w w1) := HB0.out.trans (hb1.mono HB0.out.size)
  have HX1 : Hid (w1.heap[w.heap.size]? = some (.cells #[.slice none 0 0, .int .i64 0] 32)) := (hb1.block _ (Array.getElem?_eq_some_iff.1 HX0.out).1).trans HX0.out
  clear hb1 HX0 HB0
  cases ok with
  | false =>
    go_wp2_with (refine stop_store 32 _ _ rfl ?_)
    refine Stop.of ?_
    refine wpList_storeN rfl _ _ _ rfl w.heap.size 0 [.slice none 0 0, .int .i64 0] rfl rfl _ _ HX1.out (by simp) (by kernel_rfl) (by kernel_rfl) ?_
    intro V hV
    have hx := box_stW hV rfl
    have f0 := (cell_row hx 0 (by simp)).1
    have f1 := (cell_row hx 1 (by simp)).1
    simp only [List.getElem_toArray, List.getElem_cons_zero, List.getElem_cons_succ] at f0 f1
    have HBV : Hid (Below w.heap.size w V) := HB1.out.trans (hV.b _ (Nat.le_refl _))
    have HOV : Hid (Own V w.heap.size (.slice none 0 0) []) := own_stW (Own.nil _ _) hV HX1.out (by decide)
    clear hV hx
    go_wp2_with fail
    refine bodyPost_ret (v := .tuple #[.agg #[.slice none 0 0, .int .i64 0], .bool false, .int .i64 1]) (by simp [results, Try.results12, go_sem, f0, f1]) rfl ?_
    clear HOV
    exact ⟨HBV.out, fun h => absurd h (by simp), fun _ => rfl⟩
  | true =>
    have HOK : Hid (okR L) := okB_iff.1 HA.out.symm
    have h64 : L.length ≤ 64 := HOK.out.1
    have hlw : w.heap.size < w1.heap.size := (Array.getElem?_eq_some_iff.1 HX1.out).1
    go_wp2_with fail
    go_loopw [5] (fun i wr => ∃ k : Nat, k ≤ 3 ∧ i = .int .i64 (k : Int) ∧ Hid (∀ j : Nat, j < k → fulF L (j : Int) = false) ∧ Hid (Below w1.heap.size w1 wr)) (fun i _ => 3 - (intOf i).toNat)
    case atStart => exact ⟨0, by omega, rfl, fun j hj => absurd hj (by omega), Below.refl _ _⟩
    case round =>
      obtain ⟨k, hk, rfl, HF, HB⟩ := hrel
      generalize wr = W1 at *
      have HBw : Hid (Below w.heap.size w W1) := HB1.out.trans (HB.out.mono HB1.out.size)
      by_cases hlt : k < 3
      · obtain ⟨q, Hq⟩ := hid_ex (FulB L (k : Int))
        have HQ : Hid (q = fulF L (k : Int)) := by
          unfold Hid
          rw [Hq.out, FulB, ← HA.out, decide_eq_true (by omega)]
          rfl
        go_wp2_with fail
        refine (refFull_any _ L (k : Int) _ (HR.out.below HBw.out)).mono ?_
        rw [← Hq.out]
        rintro e w2 ⟨rfl, hb2⟩
        have HB2 : Hid (Below w1.heap.size w1 w2) := HB.out.trans (hb2.mono HB.out.size)
        have HB2w : Hid (Below w.heap.size w w2) := HB1.out.trans (HB2.out.mono HB1.out.size)
        clear hb2
        cases q with
        | true =>
          have HEQ : Hid ((⟨filF [(k : Int), (k : Int) + 1] L, (k : Int) + 1, true⟩ : Tk) = offT L) := (offT_full (by omega) HF.out HQ.out.symm).symm
          have HBS : Hid _ := both_srt L (a := (k : Int)) (b := (k : Int) + 1) (by omega)
          go_wp2_with fail
          refine (at_any _ L (k : Int) _ (HR.out.below HB2w.out) (by omega)).mono ?_
          rintro e w3 ⟨v3, rfl, hO3, hb3⟩
          have HB3 : Hid (Below w1.heap.size w1 w3) := HB2.out.trans (hb3.mono HB2.out.size)
          have HB3w : Hid (Below w.heap.size w w3) := HB1.out.trans (HB3.out.mono HB1.out.size)
          have HO3 : Hid (NReads w3 v3 (atF (k : Int) L)) := hO3.reads
          clear hb3 hO3
          have hA1 : (atF (k : Int) L).length ≤ 64 := Nat.le_trans (List.length_filter_le _ _) h64
          have hA2 : (atF ((k : Int) + 1) L).length ≤ 64 := Nat.le_trans (List.length_filter_le _ _) h64
          obtain ⟨A1, HA1⟩ := hid_ex (atF (k : Int) L)
          obtain ⟨A2, HA2⟩ := hid_ex (atF ((k : Int) + 1) L)
          rw [← HA1.out] at HO3 hA1 HBS
          rw [← HA2.out] at hA2 HBS
          go_wp2_with fail
          refine (files_any _ A1 _ HO3.out (by omega)).mono ?_
          rintro e w4 ⟨v4, rfl, hO4, hb4⟩
          have HB4 : Hid (Below w1.heap.size w1 w4) := HB3.out.trans (hb4.mono HB3.out.size)
          have HB4w : Hid (Below w.heap.size w w4) := HB1.out.trans (HB4.out.mono HB1.out.size)
          have HO4 : Hid (Own w4 w1.heap.size v4 (A1.map Rn.f)) := hO4.mono HB3.out.size
          clear hb4 hO4
          go_wp2_with fail
          refine (at_any _ L ((k : Int) + 1) _ (HR.out.below HB4w.out) (by omega)).mono ?_
          rw [← HA2.out]
          rintro e w5 ⟨v5, rfl, hO5, hb5⟩
          have HB5 : Hid (Below w1.heap.size w1 w5) := HB4.out.trans (hb5.mono HB4.out.size)
          have HO45 : Hid (Own w5 w1.heap.size v4 (A1.map Rn.f)) := HO4.out.below hb5
          have HO5 : Hid (NReads w5 v5 A2) := hO5.reads
          clear hb5 hO5
          go_wp2_with fail
          refine (files_any _ A2 _ HO5.out (by omega)).mono ?_
          rintro e w6 ⟨v6, rfl, hO6, hb6⟩
          have HB6 : Hid (Below w1.heap.size w1 w6) := HB5.out.trans (hb6.mono HB5.out.size)
          have hO46 : Own w6 w1.heap.size v4 (A1.map Rn.f) := HO45.out.below hb6
          have hR6 : Reads w6 v6 (A2.map Rn.f) := hO6.reads
          clear hb6 hO6
          obtain ⟨N, HN⟩ := hid_ex (A1.map Rn.f ++ A2.map Rn.f)
          have hN : N.length ≤ 128 := by rw [HN.out, List.length_append, List.length_map, List.length_map]; omega
          obtain ⟨n1, Hn1⟩ := hid_ex (A1.map Rn.f)
          obtain ⟨n2, Hn2⟩ := hid_ex (A2.map Rn.f)
          have hl12 : n1.length + n2.length ≤ 128 := by rw [Hn1.out, Hn2.out, List.length_map, List.length_map]; omega
          rw [← Hn1.out] at hO46 HN HBS
          rw [← Hn2.out] at hR6 HN HBS
          have hs6 := HB6.out.size
          go_wp2_with (at_builtin; refine wpList_app rfl _ _ rfl w1.heap.size _ _ n1 n2 N HN.out rfl rfl hO46 hR6 (by omega) hs6 ?_)
          intro v7 w7 hO7 hB7
          have HB7 : Hid (Below w1.heap.size w1 w7) := HB6.out.trans hB7.out
          have HO7 : Hid (Own w7 w1.heap.size v7 N) := hO7
          clear hO46 hR6 hO7 hB7
          go_wp2_with fail
          refine (sorted_any _ N _ HO7.out.reads (by omega)).mono ?_
          rintro e w8 ⟨v8, rfl, hO8, hb8⟩
          have HB8 : Hid (Below w1.heap.size w1 w8) := HB7.out.trans (hb8.mono HB7.out.size)
          have HB8w : Hid (Below w.heap.size w w8) := HB1.out.trans (HB8.out.mono HB1.out.size)
          have HX8 : Hid (w8.heap[w.heap.size]? = some (.cells #[.slice none 0 0, .int .i64 0] 32)) := (HB8.out.block _ hlw).trans HX1.out
          have HO8 : Hid (Own w8 w.heap.size v8 (srt N)) := hO8.mono (by have := HB7.out.size; omega)
          obtain ⟨fa, fc, rfl, _⟩ := hO8.form
          have HSN : Hid (srt N = filF [(k : Int), (k : Int) + 1] L) := by unfold Hid; rw [HN.out]; exact HBS.out
          clear hb8 hO8
          generalize srt N = sn at *
          go_wp2_with (refine stop_store 32 _ _ rfl ?_)
          refine Stop.of ?_
          refine wpList_storeN rfl _ _ _ rfl w.heap.size 0 [.slice fa sn.length fc, .int .i64 ((k : Int) + 1)] rfl rfl _ _ HX8.out (by simp) (by kernel_rfl) (by kernel_rfl) ?_
          intro V hV
          have hx := box_stW hV rfl
          have f0 := (cell_row hx 0 (by simp)).1
          have f1 := (cell_row hx 1 (by simp)).1
          simp only [List.getElem_toArray, List.getElem_cons_zero, List.getElem_cons_succ] at f0 f1
          have HBV : Hid (Below w.heap.size w V) := HB8w.out.trans (hV.b _ (Nat.le_refl _))
          have HOV : Hid (Own V w.heap.size (.slice fa sn.length fc) sn) := own_stW HO8.out hV HX8.out (by decide)
          clear hV hx
          go_wp2_with fail
          refine bodyPost_ret (v := .tuple #[.agg #[.slice fa sn.length fc, .int .i64 ((k : Int) + 1)], .bool true, .int .i64 0]) (by simp [results, Try.results12, go_sem, f0, f1]) rfl ?_
          exact ⟨HBV.out, fun _ => ⟨_, by rw [← HEQ.out], by rw [← HEQ.out, ← HSN.out]; exact HOV.out⟩, fun h => absurd h (by simp)⟩
        | false =>
          have HFn : Hid (∀ j : Nat, j < k + 1 → fulF L (j : Int) = false) := by
            intro j hj
            rcases Nat.lt_or_ge j k with h9 | h9
            · exact HF.out j h9
            · obtain rfl : j = k := by omega
              exact HQ.out.symm
          go_wp2_with fail
          go_roundw
          case rel => exact ⟨k + 1, by omega, by go_num, HFn.out, HB2.out⟩
          case measure => simp [intOf]; omega
      · have HOT : Hid (offT L = stT L 4) := offT_none (fun j hj => by
          rcases Nat.lt_or_ge j k with h9 | h9
          · exact HF.out j h9
          · have : j = 3 := by omega
            subst this
            simp [fulF])
        clear HF
        go_wp2_with fail
        go_loopw [7] (fun i wr => ∃ k : Nat, k ≤ 4 ∧ i = .int .i64 (k : Int) ∧ Hid (∀ j : Nat, j < k → renF L (j : Int) = 0) ∧ Hid (Below w1.heap.size w1 wr)) (fun i _ => 4 - (intOf i).toNat)
        case atStart => exact ⟨0, by omega, rfl, fun j hj => absurd hj (by omega), HB.out⟩
        case round =>
          obtain ⟨m, hm, rfl, HRN, HBm⟩ := hrel
          generalize wr = W2 at *
          have HBmw : Hid (Below w.heap.size w W2) := HB1.out.trans (HBm.out.mono HB1.out.size)
          by_cases hmt : m < 4
          · go_wp2_with fail
            refine (at_any _ L (m : Int) _ (HR.out.below HBmw.out) (by omega)).mono ?_
            rintro e w3 ⟨v3, rfl, hO3, hb3⟩
            have HB3 : Hid (Below w1.heap.size w1 w3) := HBm.out.trans (hb3.mono HBm.out.size)
            obtain ⟨A, HAA⟩ := hid_ex (atF (m : Int) L)
            rw [← HAA.out] at hO3
            have HO3 : Hid (NReads w3 v3 A) := hO3.reads
            obtain ⟨xa, xc, rfl, hx1, hx2⟩ := hO3.reads.form
            unfold maxLen at hx2
            have HREN : Hid (A.foldl (stepR (m : Int)) 0 = renF L (m : Int)) := by unfold Hid; rw [HAA.out]; exact ren_at _ L 0
            have HLV : Hid (∀ r ∈ A, r.l = (m : Int)) := by
              intro r hr
              rw [HAA.out] at hr
              simpa using (List.mem_filter.1 hr).2
            clear hb3 hO3
            go_wp2_with fail
            go_loopw [8, 10] (fun bv i wr => ∃ (j : Nat) (bb : Int), j ≤ A.length ∧ i = .int .i64 (j : Int) ∧ bv = .int .i64 bb ∧ Hid (bb = (A.take j).foldl (stepR (m : Int)) 0) ∧ wr = w3) (fun _ i _ => A.length - (intOf i).toNat)
            case atStart => exact ⟨0, 0, by omega, rfl, rfl, rfl, rfl⟩
            case round =>
              obtain ⟨j, bb, hj, rfl, rfl, HBB, hwr⟩ := hrel
              subst wr
              by_cases hjt : j < A.length
              · obtain ⟨xb, xo, rfl, hxb⟩ := HO3.out.ptr (by omega)
                obtain ⟨r, Hr⟩ := hid_ex A[j]
                obtain ⟨c0, c1, c2, c3⟩ := HO3.out.four hjt r Hr.out
                have hrl : r.l = (m : Int) := by rw [Hr.out]; exact HLV.out _ (List.getElem_mem hjt)
                have HSt : Hid ((A.take (j + 1)).foldl (stepR (m : Int)) 0 = stepR (m : Int) bb r) := by
                  unfold Hid
                  rw [ren_take (m : Int) j hjt, ← Hr.out, ← HBB.out]
                cases hs : r.s with
                | false =>
                  rw [hs] at c3
                  have HE : Hid (bb = (A.take (j + 1)).foldl (stepR (m : Int)) 0) := by
                    unfold Hid
                    rw [HSt.out, stepR, if_neg (fun h => by rw [hs] at h; exact absurd h.2.1 (by simp))]
                  clear hs hrl c0 c1 c2
                  go_wp2_with fail
                  go_roundw
                  case rel => exact ⟨j + 1, bb, by omega, by go_num, rfl, HE.out, by first | rfl | trivial⟩
                  case measure => simp [intOf]; omega
                | true =>
                  rw [hs] at c3
                  by_cases hb0 : bb = 0
                  · have hbe : (bb == 0) = true := by simpa using hb0
                    have HE : Hid (r.f = (A.take (j + 1)).foldl (stepR (m : Int)) 0) := by
                      unfold Hid
                      rw [HSt.out, stepR, if_pos ⟨hrl, hs, .inl hb0⟩]
                    clear hs hrl hb0 c1 c2
                    go_wp2_with fail
                    go_roundw
                    case rel => exact ⟨j + 1, r.f, by omega, by go_num, rfl, HE.out, by first | rfl | trivial⟩
                    case measure => simp [intOf]; omega
                  · have hbe : (bb == 0) = false := by simpa using hb0
                    by_cases hrb : r.f < bb
                    · have HE : Hid (r.f = (A.take (j + 1)).foldl (stepR (m : Int)) 0) := by
                        unfold Hid
                        rw [HSt.out, stepR, if_pos ⟨hrl, hs, .inr hrb⟩]
                      clear hs hrl hb0 c1 c2
                      go_wp2_with fail
                      go_roundw
                      case rel => exact ⟨j + 1, r.f, by omega, by go_num, rfl, HE.out, by first | rfl | trivial⟩
                      case measure => simp [intOf]; omega
                    · have HE : Hid (bb = (A.take (j + 1)).foldl (stepR (m : Int)) 0) := by
                        unfold Hid
                        rw [HSt.out, stepR, if_neg (fun h => h.2.2.elim hb0 hrb)]
                      clear hs hrl hb0 c1 c2
                      go_wp2_with fail
                      go_roundw
                      case rel => exact ⟨j + 1, bb, by omega, by go_num, rfl, HE.out, by first | rfl | trivial⟩
                      case measure => simp [intOf]; omega
              · have HRB : Hid (bb = renF L (m : Int)) := by
                  unfold Hid
                  rw [HBB.out, List.take_of_length_le (by omega)]
                  exact HREN.out
                have hb0 : 0 ≤ bb := by
                  rw [HRB.out]
                  exact (foldl_le (m : Int) L 0 (fun r hr => (HOK.out.2.1 r hr).1) (Int.le_refl _)).1
                by_cases hbp : 0 < bb
                · have HEQ : Hid ((⟨[bb], (m : Int), true⟩ : Tk) = offT L) := by
                    unfold Hid
                    rw [HOT.out, stT_hit hmt HRN.out (by rw [← HRB.out]; omega), ← HRB.out]
                  have HX3 : Hid (w3.heap[w.heap.size]? = some (.cells #[.slice none 0 0, .int .i64 0] 32)) := (HB3.out.block _ hlw).trans HX1.out
                  obtain ⟨wn, Hwn⟩ := hid_ex (w3.alloc (.cells #[.int .i64 bb] 3))
                  have hl3 : w.heap.size < w3.heap.size := (Array.getElem?_eq_some_iff.1 HX3.out).1
                  have HBn : Hid (Below w3.heap.size w3 wn) := by rw [Hwn.out]; exact (Below.refl _ _).alloc (Nat.le_refl _) _
                  have HBnw : Hid (Below w.heap.size w wn) := (HB1.out.trans (HB3.out.mono HB1.out.size)).trans (HBn.out.mono (by omega))
                  have HON : Hid (Own wn w.heap.size (.slice (some ⟨w3.heap.size, 0, none⟩) 1 1) [bb]) := by rw [Hwn.out]; exact own1 w3 bb w.heap.size _ (by omega) rfl
                  have HXn : Hid (wn.heap[w.heap.size]? = some (.cells #[.slice none 0 0, .int .i64 0] 32)) := (HBn.out.block _ hl3).trans HX3.out
                  go_wp2_with (refine stop_store 32 _ _ rfl ?_)
                  rw [← Hwn.out]
                  refine Stop.of ?_
                  refine wpList_storeN rfl _ _ _ rfl w.heap.size 0 [.slice (some ⟨w3.heap.size, 0, none⟩) 1 1, .int .i64 (m : Int)] rfl rfl _ _ HXn.out (by simp) (by kernel_rfl) (by kernel_rfl) ?_
                  intro V hV
                  have hx := box_stW hV rfl
                  have f0 := (cell_row hx 0 (by simp)).1
                  have f1 := (cell_row hx 1 (by simp)).1
                  simp only [List.getElem_toArray, List.getElem_cons_zero, List.getElem_cons_succ] at f0 f1
                  have HBV : Hid (Below w.heap.size w V) := HBnw.out.trans (hV.b _ (Nat.le_refl _))
                  have HOV : Hid (Own V w.heap.size (.slice (some ⟨w3.heap.size, 0, none⟩) 1 1) [bb]) := own_stW HON.out hV HXn.out (by decide)
                  clear hV hx
                  go_wp2_with fail
                  refine bodyPost_ret (v := .tuple #[.agg #[.slice (some ⟨w3.heap.size, 0, none⟩) 1 1, .int .i64 (m : Int)], .bool true, .int .i64 0]) (by simp [results, Try.results12, go_sem, f0, f1]) rfl ?_
                  exact ⟨HBV.out, fun _ => ⟨_, by rw [← HEQ.out], by rw [← HEQ.out]; exact HOV.out⟩, fun h => absurd h (by simp)⟩
                · have HRN2 : Hid (∀ j : Nat, j < m + 1 → renF L (j : Int) = 0) := by
                    intro j hj
                    rcases Nat.lt_or_ge j m with h9 | h9
                    · exact HRN.out j h9
                    · obtain rfl : j = m := by omega
                      rw [← HRB.out]
                      omega
                  go_wp2_with fail
                  go_roundw
                  case rel => exact ⟨m + 1, by omega, by go_num, HRN2.out, HB3.out⟩
                  case measure => simp [intOf]; omega
          · obtain rfl : m = 4 := by omega
            have HEQ : Hid (tkZ = offT L) := by
              unfold Hid
              rw [HOT.out, stT_first HRN.out]
            have HX3 : Hid (W2.heap[w.heap.size]? = some (.cells #[.slice none 0 0, .int .i64 0] 32)) := (HBm.out.block _ hlw).trans HX1.out
            go_wp2_with (refine stop_store 32 _ _ rfl ?_)
            refine Stop.of ?_
            refine wpList_storeN rfl _ _ _ rfl w.heap.size 0 [.slice none 0 0, .int .i64 0] rfl rfl _ _ HX3.out (by simp) (by kernel_rfl) (by kernel_rfl) ?_
            intro V hV
            have hx := box_stW hV rfl
            have f0 := (cell_row hx 0 (by simp)).1
            have f1 := (cell_row hx 1 (by simp)).1
            simp only [List.getElem_toArray, List.getElem_cons_zero, List.getElem_cons_succ] at f0 f1
            have HBV : Hid (Below w.heap.size w V) := HBmw.out.trans (hV.b _ (Nat.le_refl _))
            have HOV : Hid (Own V w.heap.size (.slice none 0 0) []) := own_stW (Own.nil _ _) hV HX3.out (by decide)
            clear hV hx
            go_wp2_with fail
            refine bodyPost_ret (v := .tuple #[.agg #[.slice none 0 0, .int .i64 0], .bool false, .int .i64 0]) (by simp [results, Try.results12, go_sem, f0, f1]) rfl ?_
            exact ⟨HBV.out, fun _ => ⟨.slice none 0 0, by rw [← HEQ.out]; rfl, by rw [← HEQ.out]; exact HOV.out⟩, fun h => absurd h (by simp)⟩
end Go.Proofs.Yteagbcijpfpjhaa
