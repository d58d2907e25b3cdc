/- The contract of Offer (written by mkpk9.py). -/
import Derived.Test.YteagbcijpfpjhaaPK8
namespace Go.Proofs.Yteagbcijpfpjhaa
open Go.RowKit Go.Shelf

/-- What is stale on the lowest of the first levels. -/
def stT (L : List Rn) : Nat → Tk
  | 0 => tkZ
  | k + 1 => if (stT L k).s then stT L k else renT L (k : Int)
/-- What is offered. -/
def offT (L : List Rn) : Tk := if fulF L 0 then ⟨filF [0, 1] L, 1, true⟩ else if fulF L 1 then ⟨filF [1, 2] L, 2, true⟩ else if fulF L 2 then ⟨filF [2, 3] L, 3, true⟩ else stT L 4
theorem offT_full {L : List Rn} {k : Nat} (hk : k < 4) (h : ∀ j : Nat, j < k → fulF L (j : Int) = false) (hf : fulF L (k : Int) = true) : offT L = ⟨filF [(k : Int), (k : Int) + 1] L, (k : Int) + 1, true⟩ := by
  unfold offT
  have hc : k = 0 ∨ k = 1 ∨ k = 2 ∨ k = 3 := by omega
  rcases hc with rfl | rfl | rfl | rfl
  · have hf : fulF L 0 = true := hf
    rw [if_pos hf]; rfl
  · have h0 : fulF L 0 = false := h 0 (by omega)
    have hf : fulF L 1 = true := hf
    rw [if_neg (by rw [h0]; simp), if_pos hf]; rfl
  · have h0 : fulF L 0 = false := h 0 (by omega)
    have h1 : fulF L 1 = false := h 1 (by omega)
    have hf : fulF L 2 = true := hf
    rw [if_neg (by rw [h0]; simp), if_neg (by rw [h1]; simp), if_pos hf]; rfl
  · have hf : fulF L 3 = true := hf
    simp [fulF] at hf
theorem offT_none {L : List Rn} (h : ∀ j : Nat, j < 4 → fulF L (j : Int) = false) : offT L = stT L 4 := by
  unfold offT
  have h0 : fulF L 0 = false := h 0 (by omega)
  have h1 : fulF L 1 = false := h 1 (by omega)
  have h2 : fulF L 2 = false := h 2 (by omega)
  rw [if_neg (by rw [h0]; simp), if_neg (by rw [h1]; simp), if_neg (by rw [h2]; simp)]
def OfPost (L : List Rn) (w : World) (e : Ending) (w' : World) : Prop :=
  Below w.heap.size w w' ∧ (okB L = true → ∃ v', e = .returned (.tuple #[.agg #[v', .int .i64 (offT L).lv], .bool (offT L).s, .int .i64 0]) ∧ Own w' w.heap.size v' (offT L).fs) ∧ (okB L = false → e = .returned (.tuple #[.agg #[.slice none 0 0, .int .i64 0], .bool false, .int .i64 1]))
def OfQ (L : List Rn) (w : World) (ok : Bool) (e : Ending) (w' : World) : Prop :=
  Below w.heap.size w w' ∧ (ok = true → ∃ v', e = .returned (.tuple #[.agg #[v', .int .i64 (offT L).lv], .bool (offT L).s, .int .i64 0]) ∧ Own w' w.heap.size v' (offT L).fs) ∧ (ok = false → e = .returned (.tuple #[.agg #[.slice none 0 0, .int .i64 0], .bool false, .int .i64 1]))
set_option maxRecDepth 100000 in
set_option maxHeartbeats 4000000 in
theorem offer_any (v : Value) (L : List Rn) (w : World) (hR : NReads w v L) : Calls Try.prog 11 #[v] w (OfPost L w) := by
  have HR : Hid (NReads w v L) := hR
  obtain ⟨a, cap, rfl, hl1, hl2⟩ := hR.form
  clear hR
  unfold maxLen at hl2
  obtain ⟨ok, HA⟩ := hid_ex (okB L)
  show Calls Try.prog 11 #[.slice a L.length cap] w (OfQ L w (okB L))
  rw [← HA.out]
  go_enter Try.func11, Try.ntmps11
  go_wp2_with fail
  go_step3
  go_wp2_with fail
  obtain ⟨w0, HW0⟩ := hid_ex (w.alloc (.cells #[.slice none 0 0, .int .i64 0] 28))
  have HB0 : Hid (Below w.heap.size w w0) := by rw [HW0.out]; exact (Below.refl _ _).alloc (Nat.le_refl _) _
  have HX0 : Hid (w0.heap[w.heap.size]? = some (.cells #[.slice none 0 0, .int .i64 0] 28)) := by rw [HW0.out]; exact heap_alloc_new _ _
  rw [← HW0.out]
  clear HW0
  refine (right_any _ L _ (HR.out.below HB0.out)).mono ?_
  rw [← HA.out]
  rintro e w1 ⟨rfl, hb1⟩
  have HB1 : Hid (Below w.heap.size w w1) := HB0.out.trans (hb1.mono HB0.out.size)
  have HX1 : Hid (w1.heap[w.heap.size]? = some (.cells #[.slice none 0 0, .int .i64 0] 28)) := (hb1.block _ (Array.getElem?_eq_some_iff.1 HX0.out).1).trans HX0.out
  clear hb1 HX0 HB0
  cases ok with
  | false =>
    go_wp2_with (refine stop_store 28 _ _ rfl ?_)
    refine Stop.of ?_
    refine wpList_storeN rfl _ _ _ rfl w.heap.size 0 [.slice none 0 0, .int .i64 0] rfl rfl _ _ HX1.out (by simp) (by kernel_rfl) (by kernel_rfl) ?_
    intro V hV
    have hx := box_stW hV rfl
    have f0 := (cell_row hx 0 (by simp)).1
    have f1 := (cell_row hx 1 (by simp)).1
    simp only [List.getElem_toArray, List.getElem_cons_zero, List.getElem_cons_succ] at f0 f1
    have HBV : Hid (Below w.heap.size w V) := HB1.out.trans (hV.b _ (Nat.le_refl _))
    clear hV hx
    go_wp2_with fail
    rw [Exit.noGoto_ret]
    refine bodyPost_ret (v := .tuple #[.agg #[.slice none 0 0, .int .i64 0], .bool false, .int .i64 1]) (by simp [results, Try.results11, go_sem, f0, f1]) rfl ?_
    exact ⟨HBV.out, fun h => absurd h (by simp), fun _ => rfl⟩
  | true =>
    have h64 : L.length ≤ 64 := (okB_iff.1 HA.out.symm).1
    go_wp2_with fail
    go_step3
    go_wp2_with fail
    obtain ⟨B0, HBB⟩ := hid_ex w1.heap.size
    obtain ⟨w2, HW2⟩ := hid_ex (w1.alloc (.cells #[.slice none 0 0, .int .i64 0] 28))
    have HB2 : Hid (Below w.heap.size w w2) := by rw [HW2.out]; exact HB1.out.alloc HB1.out.size _
    have HX2 : Hid (w2.heap[w.heap.size]? = some (.cells #[.slice none 0 0, .int .i64 0] 28)) := by
      unfold Hid
      rw [HW2.out, Below.heap_alloc _ _ _ (Array.getElem?_eq_some_iff.1 HX1.out).1]
      exact HX1.out
    have HT2 : Hid (w2.heap[B0]? = some (.cells #[.slice none 0 0, .int .i64 0] 28)) := by rw [HW2.out, HBB.out]; exact heap_alloc_new _ _
    have HBl : Hid (w.heap.size < B0) := by
      unfold Hid
      rw [HBB.out]
      exact (Array.getElem?_eq_some_iff.1 HX1.out).1
    rw [← HW2.out, ← HBB.out]
    clear HW2 HBB HX1 HB1
    go_loopw [6, 12] (fun sv i wr => ∃ (k : Nat) (T : Tk) (v' : Value), k ≤ 4 ∧ i = .int .i64 (k : Int) ∧ sv = .bool T.s ∧ Hid (T = stT L k) ∧ Hid (∀ j : Nat, j < k → fulF L (j : Int) = false) ∧ Hid (wr.heap[B0]? = some (.cells #[v', .int .i64 T.lv] 28)) ∧ Hid (Own wr w.heap.size v' T.fs) ∧ Hid (Below B0 w2 wr)) (fun _ i _ => 4 - (intOf i).toNat)
    case atStart => exact ⟨0, tkZ, _, by omega, rfl, rfl, rfl, fun j hj => absurd hj (by omega), HT2.out, Own.nil _ _, Below.refl _ _⟩
    case round =>
      obtain ⟨k, T, v', hk, rfl, rfl, HT, HFu, HTB, HO, HB⟩ := hrel
      have HBr : Hid (Below w.heap.size w wr) := HB2.out.trans (HB.out.mono (by have := HBl.out; omega))
      have HXr : Hid (wr.heap[w.heap.size]? = some (.cells #[.slice none 0 0, .int .i64 0] 28)) := (HB.out.block _ HBl.out).trans HX2.out
      have hBr : B0 < wr.heap.size := (Array.getElem?_eq_some_iff.1 HTB.out).1
      by_cases hlt : k < 4
      · obtain ⟨q, Hq⟩ := hid_ex (fulF L (k : Int))
        go_wp2_with fail
        refine (full_any _ L (k : Int) _ (HR.out.below HBr.out) h64 (by omega) (by omega)).mono ?_
        rw [← Hq.out]
        rintro e w3 ⟨rfl, hb3⟩
        have HB3 : Hid (Below w.heap.size w w3) := HBr.out.trans (hb3.mono HBr.out.size)
        have HB23 : Hid (Below B0 w2 w3) := HB.out.trans (hb3.mono (by omega))
        have HO3 : Hid (Own w3 w.heap.size v' T.fs) := HO.out.below hb3
        have HT3 : Hid (w3.heap[B0]? = some (.cells #[v', .int .i64 T.lv] 28)) := (hb3.block _ hBr).trans HTB.out
        have HX3 : Hid (w3.heap[w.heap.size]? = some (.cells #[.slice none 0 0, .int .i64 0] 28)) := (HB23.out.block _ HBl.out).trans HX2.out
        have hB3 : B0 < w3.heap.size := (Array.getElem?_eq_some_iff.1 HT3.out).1
        clear hb3
        cases q with
        | true =>
          have HEQ : Hid ((⟨filF [(k : Int), (k : Int) + 1] L, (k : Int) + 1, true⟩ : Tk) = offT L) := (offT_full hlt HFu.out Hq.out.symm).symm
          have hbn : Below w3.heap.size w3 (w3.alloc (.cells #[.int .i64 (k : Int), .int .i64 ((k : Int) + 1)] 3)) := (Below.refl _ _).alloc (Nat.le_refl _) _
          have HBN : Hid _ := hbn
          clear hbn
          go_wp2_with fail
          refine (filesOf_any _ _ L [(k : Int), (k : Int) + 1] _ (HR.out.below (HB3.out.trans (HBN.out.mono HB3.out.size))) (reads2 w3 _ _ _ _ rfl) h64).mono ?_
          rintro e w4 ⟨vf, rfl, hO4, hb4⟩
          have hsz3 : w3.heap.size ≤ (w3.alloc (.cells #[.int .i64 (k : Int), .int .i64 ((k : Int) + 1)] 3)).heap.size := HBN.out.size
          have hb34 : Below w3.heap.size w3 w4 := HBN.out.trans (hb4.mono hsz3)
          have HB4 : Hid (Below w.heap.size w w4) := HB3.out.trans (hb34.mono HB3.out.size)
          have HT4 : Hid (w4.heap[B0]? = some (.cells #[v', .int .i64 T.lv] 28)) := (hb34.block _ hB3).trans HT3.out
          have HX4 : Hid (w4.heap[w.heap.size]? = some (.cells #[.slice none 0 0, .int .i64 0] 28)) := (hb34.block _ (by have := HBl.out; omega)).trans HX3.out
          have HO4 : Hid (Own w4 w.heap.size vf (filF [(k : Int), (k : Int) + 1] L)) := hO4.mono (by have := HB3.out.size; omega)
          obtain ⟨va, vc, rfl, hvl⟩ := hO4.form
          clear hO4 hb4 hb34 HBN
          go_wp2_with (refine stop_store 28 _ _ rfl ?_)
          refine Stop.of ?_
          refine wpList_storeN rfl _ _ _ rfl B0 0 [.slice va (filF [(k : Int), (k : Int) + 1] L).length vc, .int .i64 ((k : Int) + 1)] rfl rfl _ _ HT4.out (by simp) (by kernel_rfl) (by kernel_rfl) ?_
          intro W hW
          have HTB : Hid (W.heap[B0]? = some (.cells #[.slice va (filF [(k : Int), (k : Int) + 1] L).length vc, .int .i64 ((k : Int) + 1)] 28)) := box_stW hW rfl
          have HBW : Hid (Below w.heap.size w W) := HB4.out.trans (hW.b _ (by have := HBl.out; omega))
          have HXX : Hid (W.heap[w.heap.size]? = some (.cells #[.slice none 0 0, .int .i64 0] 28)) := (hW.o _ (by have := HBl.out; omega)).trans HX4.out
          have HOW : Hid (Own W w.heap.size (.slice va (filF [(k : Int), (k : Int) + 1] L).length vc) (filF [(k : Int), (k : Int) + 1] L)) := own_stW HO4.out hW HT4.out (by decide)
          clear hW
          generalize filF [(k : Int), (k : Int) + 1] L = fl at *
          have hg0 := (cell_row HTB.out 0 (by simp)).1
          have hg1 := (cell_row HTB.out 1 (by simp)).1
          simp only [List.getElem_toArray, List.getElem_cons_zero, List.getElem_cons_succ] at hg0 hg1
          go_wp2_with (refine stop_store 28 _ _ rfl ?_)
          refine Stop.of ?_
          refine wpList_storeN rfl _ _ _ rfl w.heap.size 0 [.slice va fl.length vc, .int .i64 ((k : Int) + 1)] rfl rfl _ _ HXX.out (by simp) (by kernel_rfl) (by kernel_rfl) ?_
          intro V hV
          have hx := box_stW hV rfl
          have f0 := (cell_row hx 0 (by simp)).1
          have f1 := (cell_row hx 1 (by simp)).1
          simp only [List.getElem_toArray, List.getElem_cons_zero, List.getElem_cons_succ] at f0 f1
          have HBV : Hid (Below w.heap.size w V) := HBW.out.trans (hV.b _ (Nat.le_refl _))
          have HOV : Hid (Own V w.heap.size (.slice va fl.length vc) fl) := own_stW HOW.out hV HXX.out (by decide)
          clear hV hx hg0 hg1
          go_wp2_with fail
          rw [Exit.noGoto_ret]
          refine bodyPost_ret (v := .tuple #[.agg #[.slice va fl.length vc, .int .i64 ((k : Int) + 1)], .bool true, .int .i64 0]) (by simp [results, Try.results11, go_sem, f0, f1]) rfl ?_
          exact ⟨HBV.out, fun _ => ⟨_, by rw [← HEQ.out], by rw [← HEQ.out]; exact HOV.out⟩, fun h => absurd h (by simp)⟩
        | false =>
          have HFn : Hid (∀ j : Nat, j < k + 1 → fulF L (j : Int) = false) := by
            intro j hj
            rcases Nat.lt_or_ge j k with h9 | h9
            · exact HFu.out j h9
            · obtain rfl : j = k := by omega
              exact Hq.out.symm
          cases hs : T.s with
          | true =>
            have HTn : Hid (T = stT L (k + 1)) := by
              unfold Hid
              rw [stT, ← HT.out, if_pos hs]
            have HSs : Hid (T.s = true) := hs
            clear hs
            go_wp2_with fail
            go_roundw
            case rel => exact ⟨k + 1, T, v', by omega, by go_num, by rw [HSs.out], HTn.out, HFn.out, HT3.out, HO3.out, HB23.out⟩
            case measure => simp [intOf]; omega
          | false =>
            obtain ⟨T2, HT2n⟩ := hid_ex (renT L (k : Int))
            have HTn : Hid (T2 = stT L (k + 1)) := by
              unfold Hid
              rw [stT, ← HT.out, if_neg (by rw [hs]; simp), HT2n.out]
            go_wp2_with fail
            refine (renewed_any _ L (k : Int) _ (HR.out.below HB3.out) h64).mono ?_
            rw [← HT2n.out]
            rintro e w4 ⟨vf, rfl, hO4, hb4⟩
            have HB4 : Hid (Below w.heap.size w w4) := HB3.out.trans (hb4.mono HB3.out.size)
            have HB24 : Hid (Below B0 w2 w4) := HB23.out.trans (hb4.mono (by omega))
            have HT4 : Hid (w4.heap[B0]? = some (.cells #[v', .int .i64 T.lv] 28)) := (hb4.block _ hB3).trans HT3.out
            have HO4 : Hid (Own w4 w.heap.size vf T2.fs) := hO4.mono HB3.out.size
            obtain ⟨va, vc, rfl, hvl⟩ := hO4.form
            clear hO4 hb4 hs
            go_wp2_with (refine stop_store 28 _ _ rfl ?_)
            refine Stop.of ?_
            refine wpList_storeN rfl _ _ _ rfl B0 0 [.slice va T2.fs.length vc, .int .i64 T2.lv] rfl rfl _ _ HT4.out (by simp) (by kernel_rfl) (by kernel_rfl) ?_
            intro W hW
            have HTB2 : Hid (W.heap[B0]? = some (.cells #[.slice va T2.fs.length vc, .int .i64 T2.lv] 28)) := box_stW hW rfl
            have HBW : Hid (Below B0 w2 W) := HB24.out.trans (hW.b _ (Nat.le_refl _))
            have HOW : Hid (Own W w.heap.size (.slice va T2.fs.length vc) T2.fs) := own_stW HO4.out hW HT4.out (by decide)
            clear hW
            go_wp2_with fail
            go_roundw
            case rel => exact ⟨k + 1, T2, _, by omega, by go_num, rfl, HTn.out, HFn.out, HTB2.out, HOW.out, HBW.out⟩
            case measure => simp [intOf]; omega
      · obtain rfl : k = 4 := by omega
        have HEQ : Hid (T = offT L) := by
          unfold Hid
          rw [offT_none HFu.out]
          exact HT.out
        have HBW : Hid (Below w.heap.size w wr) := HBr.out
        have HOW : Hid (Own wr w.heap.size v' T.fs) := HO.out
        have HXX : Hid (wr.heap[w.heap.size]? = some (.cells #[.slice none 0 0, .int .i64 0] 28)) := HXr.out
        obtain ⟨va, vc, rfl, hvl⟩ := HO.out.form
        obtain ⟨fs, lv, s⟩ := T
        dsimp only at *
        have hg0 := (cell_row HTB.out 0 (by simp)).1
        have hg1 := (cell_row HTB.out 1 (by simp)).1
        simp only [List.getElem_toArray, List.getElem_cons_zero, List.getElem_cons_succ] at hg0 hg1
        go_wp2_with (refine stop_store 28 _ _ rfl ?_)
        refine Stop.of ?_
        refine wpList_storeN rfl _ _ _ rfl w.heap.size 0 [.slice va fs.length vc, .int .i64 lv] rfl rfl _ _ HXX.out (by simp) (by kernel_rfl) (by kernel_rfl) ?_
        intro V hV
        have hx := box_stW hV rfl
        have f0 := (cell_row hx 0 (by simp)).1
        have f1 := (cell_row hx 1 (by simp)).1
        simp only [List.getElem_toArray, List.getElem_cons_zero, List.getElem_cons_succ] at f0 f1
        have HBV : Hid (Below w.heap.size w V) := HBW.out.trans (hV.b _ (Nat.le_refl _))
        have HOV : Hid (Own V w.heap.size (.slice va fs.length vc) fs) := own_stW HOW.out hV HXX.out (by decide)
        clear hV hx hg0 hg1
        go_wp2_with fail
        rw [Exit.noGoto_ret]
        refine bodyPost_ret (v := .tuple #[.agg #[.slice va fs.length vc, .int .i64 lv], .bool s, .int .i64 0]) (by simp [results, Try.results11, go_sem, f0, f1]) rfl ?_
        exact ⟨HBV.out, fun _ => ⟨_, by rw [← HEQ.out], by rw [← HEQ.out]; exact HOV.out⟩, fun h => absurd h (by simp)⟩
end Go.Proofs.Yteagbcijpfpjhaa
