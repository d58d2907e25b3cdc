/- law16's alive: what comes of fixed calls. -/
import Derived.Test.YteagbcijpfpjhaaPK9
namespace Go.Proofs.Yteagbcijpfpjhaa
open Go.RowKit Go.Shelf

theorem srt_eq {l m : List Int} (h : m.Perm l) (hs : m.Pairwise (fun x y => x ≤ y)) : srt l = m :=
  List.Perm.eq_of_pairwise (le := fun a b : Int => a ≤ b) (fun a b _ _ h1 h2 => by omega) (srt_sorted l) hs ((srt_perm l).trans h.symm)
theorem srt_of_perm {l m : List Int} (h : l.Perm m) : srt l = srt m := srt_eq ((srt_perm m).trans h.symm) (srt_sorted m)
def L3 : List Rn := [⟨3, 0, 1, false⟩, ⟨1, 0, 2, false⟩, ⟨2, 1, 3, false⟩]
theorem ok3 : okB L3 = true := okB_true (by unfold okR one apart L3; decide)
theorem off3 : offT L3 = ⟨[1, 2, 3], 1, true⟩ := by
  have h0 : fulF L3 0 = true := by simp [fulF, filF, srt_len, pkF, L3, has]
  have h1 : filF [0, 1] L3 = [1, 2, 3] := by
    have e : pkF [0, 1] L3 = [3, 1, 2] := by simp [pkF, L3, has]
    unfold filF
    rw [e]
    exact srt_eq (by decide) (by decide)
  unfold offT
  rw [if_pos h0, h1]
theorem okNil : okB [] = true := okB_true (by unfold okR one apart; decide)
theorem offNil : offT [] = tkZ := by
  have h : ∀ lv, fulF [] lv = false := by
    intro lv
    unfold fulF filF
    simp [srt_len, pkF]
  have hr : ∀ lv, renT [] lv = tkZ := by intro lv; simp [renT, renF]
  have hs : ∀ k, stT [] k = tkZ := by
    intro k
    induction k with
    | zero => rfl
    | succ k ih => rw [stT, ih, hr]; rfl
  unfold offT
  rw [h, h, h, hs]
  rfl
def c12 : Array Value := #[.int .i64 3, .int .i64 0, .int .i64 1, .bool false, .int .i64 1, .int .i64 0, .int .i64 2, .bool false, .int .i64 2, .int .i64 1, .int .i64 3, .bool false]
theorem reads3 (w : World) : NReads (w.alloc (.cells c12 48)) (.slice (some ⟨w.heap.size, 0, none⟩) 3 3) L3 := by
  refine ⟨_, 3, rfl, by simp [L3], by simp [maxLen], ?_, .inr ⟨w.heap.size, 0, rfl, by simp, ?_⟩⟩
  · intro r hr
    simp [L3] at hr
    rcases hr with rfl | rfl | rfl <;> constructor <;> simp
  · intro j hj i hi
    have hj : j < 3 := hj
    have hh : (w.alloc (.cells c12 48)).heap[w.heap.size]? = some (.cells c12 48) := heap_alloc_new _ _
    have hq := (cell_row hh (0 + j * 4 + i) (by simp [c12]; omega)).1
    rw [hq]
    have hjc : j = 0 ∨ j = 1 ∨ j = 2 := by omega
    have hic : i = 0 ∨ i = 1 ∨ i = 2 ∨ i = 3 := by omega
    rcases hjc with rfl | rfl | rfl <;> rcases hic with rfl | rfl | rfl | rfl <;> rfl
theorem readsZ (w : World) : NReads (w.alloc (.cells #[.int .i64 0, .int .i64 0, .int .i64 0, .bool false] 48)) (.slice (some ⟨w.heap.size, 0, none⟩) 1 1) [⟨0, 0, 0, false⟩] := by
  refine ⟨_, 1, rfl, by simp, by simp [maxLen], ?_, .inr ⟨w.heap.size, 0, rfl, by simp, ?_⟩⟩
  · intro r hr
    simp at hr
    subst hr
    constructor <;> simp
  · intro j hj i hi
    have hj : j < 1 := hj
    have hh : (w.alloc (.cells #[.int .i64 0, .int .i64 0, .int .i64 0, .bool false] 48)).heap[w.heap.size]? = some (.cells #[.int .i64 0, .int .i64 0, .int .i64 0, .bool false] 48) := heap_alloc_new _ _
    have hq := (cell_row hh (0 + j * 4 + i) (by simp; omega)).1
    rw [hq]
    have hjc : j = 0 := by omega
    have hic : i = 0 ∨ i = 1 ∨ i = 2 ∨ i = 3 := by omega
    subst hjc
    rcases hic with rfl | rfl | rfl | rfl <;> rfl
theorem okZ : okB [⟨0, 0, 0, false⟩] = false := okB_false (by unfold okR one apart; decide)
theorem offer3 (w : World) (B : Nat) (hB : B = w.heap.size) : Calls Try.prog 11 #[.slice (some ⟨B, 0, none⟩) 3 3] (w.alloc (.cells c12 48)) fun e w' => Below w.heap.size w w' ∧ ∃ g cap, e = .returned (.tuple #[.agg #[.slice (some ⟨g, 0, none⟩) 3 cap, .int .i64 1], .bool true, .int .i64 0]) ∧ w'.cell? ⟨g, 0, none⟩ = some (.int .i64 1) := by
  subst hB
  have hb : Below w.heap.size w (w.alloc (.cells c12 48)) := (Below.refl _ _).alloc (Nat.le_refl _) _
  refine (offer_any _ L3 _ (reads3 w)).mono ?_
  rintro e w' ⟨h1, h2, _⟩
  obtain ⟨v', rfl, hO⟩ := h2 ok3
  rw [off3] at hO ⊢
  obtain ⟨g, cap, rfl, _, hg, _⟩ := hO.some (by simp)
  exact ⟨hb.trans (h1.mono hb.size), g, cap, rfl, (hO.at 0 (by simp)).1⟩
theorem offerNil (w : World) : Calls Try.prog 11 #[.slice none 0 0] w fun e w' => Below w.heap.size w w' ∧ ∃ a cap, e = .returned (.tuple #[.agg #[.slice a 0 cap, .int .i64 0], .bool false, .int .i64 0]) := by
  refine (offer_any _ [] _ (NReads.nil w)).mono ?_
  rintro e w' ⟨h1, h2, _⟩
  obtain ⟨v', rfl, hO⟩ := h2 okNil
  rw [offNil] at hO ⊢
  obtain ⟨a, cap, rfl, _⟩ := hO.form
  exact ⟨h1, a, cap, rfl⟩
theorem rightZ (w : World) (B : Nat) (hB : B = w.heap.size) : Calls Try.prog 13 #[.slice (some ⟨B, 0, none⟩) 1 1] (w.alloc (.cells #[.int .i64 0, .int .i64 0, .int .i64 0, .bool false] 48)) fun e w' => e = .returned (.bool false) ∧ Below w.heap.size w w' := by
  subst hB
  have hb : Below w.heap.size w (w.alloc (.cells #[.int .i64 0, .int .i64 0, .int .i64 0, .bool false] 48)) := (Below.refl _ _).alloc (Nat.le_refl _) _
  refine (right_any _ _ _ (readsZ w)).mono ?_
  rw [okZ]
  rintro e w' ⟨rfl, h⟩
  exact ⟨rfl, hb.trans (h.mono hb.size)⟩
set_option maxRecDepth 100000 in
set_option maxHeartbeats 2000000 in
theorem alive_any (w : World) : Calls Try.prog 9 #[] w fun e w' => e = .returned (.bool true) ∧ Below w.heap.size w w' := by
  go_enter Try.func9, Try.ntmps9
  go_wp2_with fail
  refine (offer3 w _ rfl).mono ?_
  rintro e w1 ⟨hb1, g, cap, rfl, hc1⟩
  have HB1 : Hid _ := hb1
  clear hb1
  go_wp2_with (refine stop_store 28 _ _ rfl ?_)
  refine Stop.of ?_
  refine wpList_storeN rfl _ _ _ rfl w1.heap.size 0 [.slice (some ⟨g, 0, none⟩) 3 cap, .int .i64 1] rfl rfl _ _ (heap_alloc_new _ _) (by simp) (by kernel_rfl) (by kernel_rfl) ?_
  intro W hW
  obtain ⟨hbW, hxW, hlW⟩ := stW_new hW (by simp)
  have HBW : Hid (Below w.heap.size w W) := HB1.out.trans (hbW.mono HB1.out.size)
  have HX : Hid (W.heap[w1.heap.size]? = some (.cells #[.slice (some ⟨g, 0, none⟩) 3 cap, .int .i64 1] 28)) := hxW
  have hcW := (hbW.cell (cell_block hc1).1).trans hc1
  clear hW hbW hxW hc1
  go_wp2_with fail
  refine (offerNil W).mono ?_
  rintro e w2 ⟨hb2, na, nc, rfl⟩
  have HB2 : Hid (Below w.heap.size w w2) := HBW.out.trans (hb2.mono HBW.out.size)
  have HX2 : Hid (w2.heap[w1.heap.size]? = some (.cells #[.slice (some ⟨g, 0, none⟩) 3 cap, .int .i64 1] 28)) := (hb2.block _ hlW).trans HX.out
  have hc2 := (hb2.cell (cell_block hcW).1).trans hcW
  clear hb2 hcW
  go_wp2_with (refine stop_store 28 _ _ rfl ?_)
  refine Stop.of ?_
  refine wpList_storeN rfl _ _ _ rfl w2.heap.size 0 [.slice na 0 nc, .int .i64 0] rfl rfl _ _ (heap_alloc_new _ _) (by simp) (by kernel_rfl) (by kernel_rfl) ?_
  intro V hV
  obtain ⟨hbV, hxV, hlV⟩ := stW_new hV (by simp)
  have HBV : Hid (Below w.heap.size w V) := HB2.out.trans (hbV.mono HB2.out.size)
  have hXV := (hbV.block _ (Array.getElem?_eq_some_iff.1 HX2.out).1).trans HX2.out
  have hcV := (hbV.cell (cell_block hc2).1).trans hc2
  have f0 := (cell_row hXV 0 (by simp)).1
  have f1 := (cell_row hXV 1 (by simp)).1
  simp only [List.getElem_toArray, List.getElem_cons_zero, List.getElem_cons_succ] at f0 f1
  clear hV hbV hxV hc2 hXV
  go_wp2_with fail
  refine (rightZ V _ rfl).mono ?_
  rintro e w3 ⟨rfl, hb3⟩
  have HB3 : Hid (Below w.heap.size w w3) := HBV.out.trans (hb3.mono HBV.out.size)
  clear hb3 f0 f1 hcV
  go_wp2_with fail
  go_ret
  exact ⟨rfl, HB3.out⟩
end Go.Proofs.Yteagbcijpfpjhaa
