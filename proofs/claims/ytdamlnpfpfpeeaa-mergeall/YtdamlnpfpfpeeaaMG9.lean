/- The contract of copied. -/
import Derived.Test.YtdamlnpfpfpeeaaMG8
import Derived.Test.YtdamlnpfpfpeeaaCP1
namespace Go.Proofs.Ytdamlnpfpfpeeaa
open Go.RowKit

theorem infoEn : (Try.prog.info? 36).map (fun i => (i.zero, i.size, i.bytes)) = some (some (.agg #[.slice none 0 0, .int .u64 0, .bool false, .int .i64 0, .int .u64 0, .int .i64 0, .int .i64 0]), 7, 72) := by kernel_rfl
def evZ : Ev := ⟨.slice none 0 0, [], agZ⟩
theorem made7 : ∀ n : Nat, (madeCells (Value.agg #[.slice none 0 0, .int .u64 0, .bool false, .int .i64 0, .int .u64 0, .int .i64 0, .int .i64 0]).cells (n * 7)).toList = (List.replicate n evZ).flatMap c7 := by
  intro n
  apply List.ext_getElem?
  intro j
  by_cases hj : j < n * 7
  · have h1 : j / 7 < (List.replicate n evZ).length := by simp; omega
    have h2 := flat7 (List.replicate n evZ) (j / 7) (j % 7) h1 (by omega)
    rw [show 7 * (j / 7) + j % 7 = j by omega] at h2
    rw [h2]
    have h3 : (List.replicate n evZ)[j / 7]'h1 = evZ := by simp
    rw [h3]
    have h4 : j % 7 < 7 := by omega
    simp only [madeCells, Value.cells]
    rw [Array.getElem?_toList]
    simp [hj]
    have : ∀ r : Fin 7, (#[Value.slice none 0 0, .int .u64 0, .bool false, .int .i64 0, .int .u64 0, .int .i64 0, .int .i64 0] : Array Value)[r.val]? = (c7 evZ)[r.val]? := by
      intro r
      match r with
      | 0 | 1 | 2 | 3 | 4 | 5 | 6 => rfl
    have h5 := this ⟨j % 7, h4⟩
    simp only [] at h5
    rw [← h5]
    simp [h4]
  · rw [List.getElem?_eq_none (by simp [madeCells]; omega), List.getElem?_eq_none]
    have : ∀ xs : List Ev, (xs.flatMap c7).length = xs.length * 7 := by
      intro xs
      induction xs with
      | nil => rfl
      | cons x xs ih => rw [List.flatMap_cons, List.length_append, ih, c7_len]; simp; omega
    rw [this]; simp; omega
theorem flat7_len : ∀ xs : List Ev, (xs.flatMap c7).length = xs.length * 7
  | [] => rfl
  | x :: xs => by rw [List.flatMap_cons, List.length_append, flat7_len xs, c7_len]; simp; omega
theorem row_set7 {w W : World} {base g n cap k : Nat} {cur : Array Value} {ys : List Ev} {y : Ev} (h : w.ownsRow base 36 7 (.slice (some ⟨g, 0, none⟩) n cap) n (ys.flatMap c7)) (hcur : w.heap[g]? = some (.cells cur 36))
    (hW : StW w W g (k * 7) cur 36 (c7 y)) (hn : ys.length = n) : W.ownsRow base 36 7 (.slice (some ⟨g, 0, none⟩) n cap) n ((ys.set k y).flatMap c7) := by
  obtain ⟨h1, h2⟩ := h
  refine ⟨by rw [flat7_len, List.length_set, hn], ?_⟩
  rcases h2 with ⟨h2, _⟩ | ⟨g', cap', cur0, hv, hg, hw, hc, hx, hs, ht⟩
  · simp at h2
  · have hv' := hv
    simp at hv'
    obtain ⟨rfl, rfl⟩ := hv'
    obtain rfl : cur0 = cur := by rw [hw] at hcur; simpa using hcur
    obtain ⟨cur', k1, k2, k3, k4⟩ := hW.c
    refine .inr ⟨g, cap, cur', rfl, hg, k1, hc, hx, by omega, ?_⟩
    apply List.ext_getElem?
    intro j
    rw [List.getElem?_take]
    by_cases hj : j < n * 7
    · rw [if_pos hj, Array.getElem?_toList]
      have hj7 : j / 7 < (ys.set k y).length := by simp; omega
      have e1 := flat7 (ys.set k y) (j / 7) (j % 7) hj7 (by omega)
      rw [show 7 * (j / 7) + j % 7 = j by omega] at e1
      rw [e1]
      by_cases hjk : j / 7 = k
      · have e2 : (ys.set k y)[j / 7]'hj7 = y := by simp [hjk]
        rw [e2]
        have := k4 (j % 7) (by rw [c7_len]; omega)
        rw [show k * 7 + j % 7 = j by omega] at this
        rw [this, List.getElem?_eq_getElem]
      · rw [k3 j (by rw [c7_len]; omega)]
        have e2 : (ys.set k y)[j / 7]'hj7 = ys[j / 7]'(by simpa using hj7) := by
          rw [List.getElem_set]; rw [if_neg (fun e => hjk e.symm)]
        rw [e2]
        have e3 := flat7 ys (j / 7) (j % 7) (by simpa using hj7) (by omega)
        rw [show 7 * (j / 7) + j % 7 = j by omega] at e3
        rw [← e3, ← ht, List.getElem?_take, if_pos hj, Array.getElem?_toList]
    · rw [if_neg hj, List.getElem?_eq_none (by rw [flat7_len, List.length_set]; omega)]
def CpPost (L : List En) (w : World) (e : Ending) (w' : World) : Prop := ∃ g xs, e = .returned (.slice (some ⟨g, 0, none⟩) L.length L.length) ∧ EOwn w' w.heap.size (.slice (some ⟨g, 0, none⟩) L.length L.length) xs ∧ xs.map evE = L ∧ Below w.heap.size w w'
/-- What the loop of copied keeps. -/
structure CpI (L : List En) (w : World) (g k : Nat) (xs : List Ev) (wr : World) : Prop where
  l : xs.length = k
  m : xs.map evE = L.take k
  r : wr.ownsRow w.heap.size 36 7 (.slice (some ⟨g, 0, none⟩) L.length L.length) L.length ((xs ++ List.replicate (L.length - k) evZ).flatMap c7)
  o : ∀ x ∈ xs, Own wr w.heap.size x.kv x.k
  b : Below w.heap.size w wr
set_option maxRecDepth 100000 in
set_option maxHeartbeats 4000000 in
theorem copied_some (b off cap : Nat) (L : List En) (w : World) (hE : EReads w (.slice (some ⟨b, off, none⟩) L.length cap) L) (hL : L.length ≤ 100000) (hK : ∀ x ∈ L, x.1.length ≤ 100000) :
    Calls Try.prog 16 #[.slice (some ⟨b, off, none⟩) L.length cap] w (CpPost L w) := by
  have HE : Hid (EReads w (.slice (some ⟨b, off, none⟩) L.length cap) L) := hE
  obtain ⟨hm1, hm2⟩ := eReads_cap hE
  unfold maxLen at hm2
  clear hE
  have HK : Hid _ := hK
  clear hK
  obtain ⟨i0, hi, hz0, hz1, hz2⟩ := info_parts infoEn
  obtain ⟨w0, hr0, hown0, hg0⟩ := run_make_full (P := Try.prog) w w.heap.size 25 36 i0 _ 7 Try.underlying25 hi hz0 hz1 .i64 .i64 L.length (by rw [hz2]; omega) (by unfold maxLen; omega) (Nat.le_refl _)
  rw [made7] at hown0
  have HI0 : Hid (CpI L w w.heap.size 0 [] w0) := ⟨rfl, rfl, by simpa using hown0, fun x hx => (by cases hx), (Below.refl _ _).grown hg0 (Nat.le_refl _) (fun k e => by cases e)⟩
  clear hown0 hg0 hi hz0 hz1 hz2
  go_enter Try.func16, Try.ntmps16
  go_wp2_with fail
  go_loopw [11] (fun i wr => ∃ (k : Nat) (xs : List Ev), k ≤ L.length ∧ i = .int .i64 (k : Int) ∧ Hid (CpI L w w.heap.size k xs wr)) (fun i _ => L.length - (intOf i).toNat)
  case atStart => exact ⟨0, [], by omega, rfl, HI0⟩
  case round =>
    clear HI0 hr0
    obtain ⟨k, xs, hk, rfl, HC⟩ := hrel
    by_cases hlt : k < L.length
    · obtain ⟨kv, hcw, hRw, hA⟩ := eReads_at HE.out hlt rfl
      have hbw := (cell_block (hcw 0 (by decide))).1
      simp only at hbw
      have hc : ∀ i (hi : i < 7), wr.cell? ⟨b, off + k * 7 + i, none⟩ = some ((c7 ⟨kv, L[k].1, L[k].2⟩)[i]'hi) := fun i hi => (HC.out.b.cell (p := ⟨b, off + k * 7 + i, none⟩) hbw).trans (hcw i hi)
      have hR := hRw.below HC.out.b
      have hkl := HK.out L[k] (List.getElem_mem hlt)
      have HTK : Hid (L.take (k + 1) = L.take k ++ [L[k]]) := by unfold Hid; rw [List.take_add_one, List.getElem?_eq_getElem hlt]; rfl
      obtain ⟨X, HX⟩ := hid_ex L[k]
      rw [← HX.out] at hR hRw hA hc hkl HTK
      clear hcw
      have c0 := hc 0 (by decide)
      have c1 := hc 1 (by decide)
      have c2 := hc 2 (by decide)
      have c3 := hc 3 (by decide)
      have c4 := hc 4 (by decide)
      have c5 := hc 5 (by decide)
      have c6 := hc 6 (by decide)
      simp only [c7, List.getElem_cons_zero, List.getElem_cons_succ, Nat.add_zero] at c0 c1 c2 c3 c4 c5 c6
      obtain ⟨ak, ck, hkv, _⟩ := hR.form
      subst hkv
      have HRw : Hid (Reads w (.slice ak X.1.length ck) X.1) := hRw
      obtain ⟨w2, HW2⟩ := hid_ex (wr.alloc (.cells #[.slice ak X.1.length ck, .int .u64 X.2.c, .bool X.2.o, .int .i64 (hi X.2.s), .int .u64 (lo X.2.s), .int .i64 X.2.mn, .int .i64 X.2.mx] 36))
      have hb2 : Below wr.heap.size wr w2 := by rw [HW2.out]; exact (Below.refl _ _).alloc (Nat.le_refl _) _
      have HB2 : Hid (Below wr.heap.size wr w2) := hb2
      have HR2 : Hid (Reads w2 (.slice ak X.1.length ck) X.1) := hR.below hb2
      have HBX : Hid (w2.heap[wr.heap.size]? = some (.cells #[.slice ak X.1.length ck, .int .u64 X.2.c, .bool X.2.o, .int .i64 (hi X.2.s), .int .u64 (lo X.2.s), .int .i64 X.2.mn, .int .i64 X.2.mx] 36)) := by rw [HW2.out]; exact heap_alloc_new _ _
      have hszl : w.heap.size ≤ w2.heap.size := Nat.le_trans HC.out.b.size hb2.size
      obtain ⟨cur, hcur⟩ := row_block HC.out.r
      have HCUR : Hid (w2.heap[w.heap.size]? = some (.cells cur 36)) := (hb2.block _ (Array.getElem?_eq_some_iff.1 hcur).1).trans hcur
      have hfit : k * 7 + 7 ≤ cur.size := by
        rcases HC.out.r.2 with ⟨q, _⟩ | ⟨g', c', cur0, q, _, hw, hc1, _, hs, _⟩
        · simp at q
        · simp at q
          obtain ⟨rfl, rfl⟩ := q
          rw [hcur] at hw
          simp at hw
          subst hw
          omega
      obtain ⟨j0, ji, jz0, jz1, jz2⟩ := info_parts info5
      obtain ⟨w3, hr3, hown3, hg3⟩ := run_make_full (P := Try.prog) w2.drew w.heap.size 29 5 j0 (.int .u8 0) 1 Try.underlying29 ji jz0 jz1 .i64 .i64 X.1.length (by rw [jz2]; omega) (by unfold maxLen; omega) hszl
      have hsd : w2.drew.heap.size = w2.heap.size := rfl
      rw [hsd] at hr3 hown3
      rw [Nat.mul_one] at hown3
      have HO3 : Hid (Own w3 w.heap.size (.slice (some ⟨w2.heap.size, 0, none⟩) X.1.length X.1.length) (List.replicate X.1.length 0)) := own_zeros hown3
      have HB3 : Hid (Below w2.heap.size w2 w3) := (Below.refl w2.heap.size w2).drew.grown hg3 (Nat.le_refl _) (fun k e => by cases e)
      have b0 := (cell_row HBX.out 0 (by simp)).1
      have b1 := (cell_row HBX.out 1 (by simp)).1
      have b2 := (cell_row HBX.out 2 (by simp)).1
      have b3 := (cell_row HBX.out 3 (by simp)).1
      have b4 := (cell_row HBX.out 4 (by simp)).1
      have b5 := (cell_row HBX.out 5 (by simp)).1
      have b6 := (cell_row HBX.out 6 (by simp)).1
      have hbb := (Array.getElem?_eq_some_iff.1 HBX.out).1
      simp only [List.getElem_toArray, List.getElem_cons_zero, List.getElem_cons_succ] at b0 b1 b2 b3 b4 b5 b6
      clear hc hR hRw hb2 hown3 hg3 hsd ji jz0 jz1 jz2 hcur
      go_wp2_with fail
      rw [← HW2.out]
      clear c0 c1 c2 c3 c4 c5 c6
      refine wp_region_noPanic ?_
      refine wp_region_S 10 (fun _ => True) (fun w' => w'.cell? ⟨wr.heap.size, 0, none⟩ = some (.slice ak X.1.length ck) ∧ w'.cell? ⟨wr.heap.size, 1, none⟩ = some (.int .u64 X.2.c) ∧ w'.cell? ⟨wr.heap.size, 2, none⟩ = some (.bool X.2.o) ∧ w'.cell? ⟨wr.heap.size, 3, none⟩ = some (.int .i64 (hi X.2.s)) ∧ w'.cell? ⟨wr.heap.size, 4, none⟩ = some (.int .u64 (lo X.2.s)) ∧ w'.cell? ⟨wr.heap.size, 5, none⟩ = some (.int .i64 X.2.mn) ∧ w'.cell? ⟨wr.heap.size, 6, none⟩ = some (.int .i64 X.2.mx)) (by kernel_rfl) ?_ ?_ (fun hHeld => ?_)
      · trivial
      · exact ⟨b0, b1, b2, b3, b4, b5, b6⟩
      refine wpAnyS_take (i := 0) (v := .slice (some ⟨w.heap.size, 0, none⟩) L.length L.length) _ rfl (by kernel_rfl) (by kernel_rfl) (by kernel_rfl) (by kernel_rfl) (by kernel_rfl) rfl (fun _ _ _ h => h) (Or.inl ⟨by rfl, ?_⟩) hHeld (fun hHeld => ?_)
      · (intro w1 hSw; have hSw := hSw.1; (try dsimp only at hSw); go_simp)
      simp only [List.getElem_toArray, List.getElem_cons_zero, Act.put, List.setIfInBounds_toArray, List.set_cons_zero, List.set_cons_succ]
      refine wpAnyS_take (i := 1) (v := .int .i64 (k : Int)) _ rfl (by kernel_rfl) (by kernel_rfl) (by kernel_rfl) (by kernel_rfl) (by kernel_rfl) rfl (fun _ _ _ h => h) (Or.inl ⟨by rfl, ?_⟩) hHeld (fun hHeld => ?_)
      · (intro w1 hSw; have hSw := hSw.1; (try dsimp only at hSw); go_simp)
      simp only [List.getElem_toArray, List.getElem_cons_succ, List.getElem_cons_zero, Act.put, List.setIfInBounds_toArray, List.set_cons_zero, List.set_cons_succ]
      refine wpAnyS_take (i := 2) (v := .pointer (some ⟨wr.heap.size, 0, none⟩)) _ rfl (by kernel_rfl) (by kernel_rfl) (by kernel_rfl) (by kernel_rfl) (by kernel_rfl) rfl (fun _ _ _ h => h) (Or.inl ⟨by rfl, ?_⟩) hHeld (fun hHeld => ?_)
      · (intro w1 hSw; have hSw := hSw.1; (try dsimp only at hSw); go_simp)
      simp only [List.getElem_toArray, List.getElem_cons_succ, List.getElem_cons_zero, Act.put, List.setIfInBounds_toArray, List.set_cons_zero, List.set_cons_succ]
      refine wpAnyS_take (i := 3) (v := .slice ak X.1.length ck) true rfl (by kernel_rfl) (by kernel_rfl) (by kernel_rfl) (by kernel_rfl) (by kernel_rfl) (by kernel_rfl) (fun _ _ _ h => h) (Or.inl ⟨by rfl, ?_⟩) hHeld (fun hHeld => ?_)
      · (intro w1 hSw; have hSw2 := hSw.2 rfl; have hSw := hSw.1; (try dsimp only at hSw hSw2); go_simp)
      simp only [List.getElem_toArray, List.getElem_cons_succ, List.getElem_cons_zero, Act.put, List.setIfInBounds_toArray, List.set_cons_zero, List.set_cons_succ]
      refine wpAnyS_take (i := 4) (v := .int .i64 (X.1.length : Int)) _ rfl (by kernel_rfl) (by kernel_rfl) (by kernel_rfl) (by kernel_rfl) (by kernel_rfl) rfl (fun _ _ _ h => h) (Or.inl ⟨by rfl, ?_⟩) hHeld (fun hHeld => ?_)
      · (intro w1 hSw; have hSw := hSw.1; (try dsimp only at hSw); go_simp)
      simp only [List.getElem_toArray, List.getElem_cons_succ, List.getElem_cons_zero, Act.put, List.setIfInBounds_toArray, List.set_cons_zero, List.set_cons_succ]
      refine wpAnyS_take (i := 6) (v := .pointer (some ⟨wr.heap.size, 1, none⟩)) _ rfl (by kernel_rfl) (by kernel_rfl) (by kernel_rfl) (by kernel_rfl) (by kernel_rfl) rfl (fun _ _ _ h => h) (Or.inl ⟨by rfl, ?_⟩) hHeld (fun hHeld => ?_)
      · (intro w1 hSw; have hSw := hSw.1; (try dsimp only at hSw); go_simp)
      simp only [List.getElem_toArray, List.getElem_cons_succ, List.getElem_cons_zero, Act.put, List.setIfInBounds_toArray, List.set_cons_zero, List.set_cons_succ]
      refine wpAnyS_take (i := 7) (v := .agg #[.int .u64 X.2.c, .bool X.2.o, .int .i64 (hi X.2.s), .int .u64 (lo X.2.s), .int .i64 X.2.mn, .int .i64 X.2.mx]) true rfl (by kernel_rfl) (by kernel_rfl) (by kernel_rfl) (by kernel_rfl) (by kernel_rfl) (by kernel_rfl) (fun _ _ _ h => h) (Or.inl ⟨by rfl, ?_⟩) hHeld (fun hHeld => ?_)
      · (intro w1 hSw; have hSw2 := hSw.2 rfl; have hSw := hSw.1; (try dsimp only at hSw hSw2); go_simp)
      simp only [List.getElem_toArray, List.getElem_cons_succ, List.getElem_cons_zero, Act.put, List.setIfInBounds_toArray, List.set_cons_zero, List.set_cons_succ]
      refine wpAnyS_ready (i := 5) (by kernel_rfl) rfl (fun K hK => ?_)
      go_simp
      refine hK.out _ _ ⟨?_, fun _ => ?_⟩ (fun hHeld => ?_)
      · trivial
      · exact ⟨(HB3.out.cell (p := ⟨wr.heap.size, 0, none⟩) hbb).trans b0, (HB3.out.cell (p := ⟨wr.heap.size, 1, none⟩) hbb).trans b1, (HB3.out.cell (p := ⟨wr.heap.size, 2, none⟩) hbb).trans b2, (HB3.out.cell (p := ⟨wr.heap.size, 3, none⟩) hbb).trans b3, (HB3.out.cell (p := ⟨wr.heap.size, 4, none⟩) hbb).trans b4, (HB3.out.cell (p := ⟨wr.heap.size, 5, none⟩) hbb).trans b5, (HB3.out.cell (p := ⟨wr.heap.size, 6, none⟩) hbb).trans b6⟩
      clear hK K
      refine wpAnyS_take (i := 8) (v := .agg #[.slice (some ⟨w2.heap.size, 0, none⟩) X.1.length X.1.length, .int .u64 X.2.c, .bool X.2.o, .int .i64 (hi X.2.s), .int .u64 (lo X.2.s), .int .i64 X.2.mn, .int .i64 X.2.mx]) _ rfl (by kernel_rfl) (by kernel_rfl) (by kernel_rfl) (by kernel_rfl) (by kernel_rfl) rfl (fun _ _ _ h => h) (Or.inl ⟨by rfl, ?_⟩) hHeld (fun hHeld => ?_)
      · (intro w1 hSw; have hSw := hSw.1; (try dsimp only at hSw); go_simp)
      simp only [List.getElem_toArray, List.getElem_cons_succ, List.getElem_cons_zero, Act.put, List.setIfInBounds_toArray, List.set_cons_zero, List.set_cons_succ]
      refine wpAnyS_take (i := 9) (v := .pointer (some ⟨w.heap.size, k * 7, none⟩)) _ rfl (by kernel_rfl) (by kernel_rfl) (by kernel_rfl) (by kernel_rfl) (by kernel_rfl) rfl (fun _ _ _ h => h) (Or.inl ⟨by rfl, ?_⟩) hHeld (fun hHeld => ?_)
      · (intro w1 hSw; have hSw := hSw.1; (try dsimp only at hSw); go_simp)
      simp only [List.getElem_toArray, List.getElem_cons_succ, List.getElem_cons_zero, Act.put, List.setIfInBounds_toArray, List.set_cons_zero, List.set_cons_succ]
      have HCUR3 : Hid (w3.heap[w.heap.size]? = some (.cells cur 36)) := (HB3.out.block _ (Array.getElem?_eq_some_iff.1 HCUR.out).1).trans HCUR.out
      refine wpAnyS_ready (i := 10) (by kernel_rfl) rfl (fun K hK => ?_)
      rw [if_pos (by rfl)]
      refine wp_storeN _ _ _ rfl w.heap.size (k * 7) (c7 ⟨.slice (some ⟨w2.heap.size, 0, none⟩) X.1.length X.1.length, [], X.2⟩) rfl rfl cur _ HCUR3.out hfit (by kernel_rfl) (by kernel_rfl) (fun W hW => ?_)
      refine hK.out _ _ ⟨?_, fun hno => absurd hno (by decide)⟩ (fun hHeld => ?_)
      · trivial
      clear hK K
      refine wpAnyS_done (by kernel_rfl) ?_ _
      refine NoPanic.normal ?_
      have HW : Hid _ := hW
      have q0 : W.cell? ⟨w.heap.size, k * 7, none⟩ = some (.slice (some ⟨w2.heap.size, 0, none⟩) X.1.length X.1.length) := by
        obtain ⟨cur', k1, k2, k3, k4⟩ := hW.c
        have := k4 0 (by rw [c7_len]; omega)
        rw [Go.Joins.cell_of_block k1]; exact this
      have hne : wr.heap.size ≠ w.heap.size := fun e => by
        have h1 := HC.out.b.size
        have h2 := (Array.getElem?_eq_some_iff.1 (row_block HC.out.r).choose_spec).1
        omega
      have q1 : W.cell? ⟨wr.heap.size, 0, none⟩ = some (.slice ak X.1.length ck) := (World.cell?_of_block (hW.o wr.heap.size hne)).trans ((HB3.out.cell (p := ⟨wr.heap.size, 0, none⟩) hbb).trans b0)
      have HBW : Hid (Below w.heap.size w W.drew) := (((HC.out.b.trans (HB2.out.mono HC.out.b.size)).trans (HB3.out.mono hszl)).trans (hW.b _ (Nat.le_refl _))).drew
      have hu : ∀ (k : Nat) (cs : Array Value) (fr : Nat × Nat), w3.heap[k]? = some (Obj.cells cs 5 fr) → W.heap[k]? = some (Obj.cells cs 5 fr) := fun k cs fr q => (hW.o k (typ_ne q HCUR3.out (by decide))).trans q
      have HOW : Hid (Own W.drew w.heap.size (.slice (some ⟨w2.heap.size, 0, none⟩) X.1.length X.1.length) (List.replicate X.1.length 0)) := own_kp HO3.out hu
      have HRW : Hid (Reads W.drew (.slice ak X.1.length ck) X.1) := HRw.out.below HBW.out
      obtain ⟨w5, hr5, ho5, hb5, hg5⟩ := copy_gen (w := W.drew) (off := 0) (m := X.1.length) 3 HOW.out HRW.out (by omega) (by omega)
      clear hW b0 b1 b2 b3 b4 b5 b6 hr3
      go_wp2_with fail
      refine wp_region_noPanic ?_
      refine wp_region_S 7 (fun _ => True) (fun w' => w'.cell? ⟨w.heap.size, k * 7, none⟩ = some (.slice (some ⟨w2.heap.size, 0, none⟩) X.1.length X.1.length) ∧ w'.cell? ⟨wr.heap.size, 0, none⟩ = some (.slice ak X.1.length ck)) (by kernel_rfl) ?_ ?_ (fun hHeld => ?_)
      · trivial
      · exact ⟨q0, q1⟩
      refine wpAnyS_take (i := 0) (v := .slice (some ⟨w.heap.size, 0, none⟩) L.length L.length) _ rfl (by kernel_rfl) (by kernel_rfl) (by kernel_rfl) (by kernel_rfl) (by kernel_rfl) rfl (fun _ _ _ h => h) (Or.inl ⟨by rfl, ?_⟩) hHeld (fun hHeld => ?_)
      · (intro w1 hSw; have hSw := hSw.1; (try dsimp only at hSw); go_simp)
      simp only [List.getElem_toArray, List.getElem_cons_zero, Act.put, List.setIfInBounds_toArray]
      refine wpAnyS_take (i := 1) (v := .int .i64 (k : Int)) _ rfl (by kernel_rfl) (by kernel_rfl) (by kernel_rfl) (by kernel_rfl) (by kernel_rfl) rfl (fun _ _ _ h => h) (Or.inl ⟨by rfl, ?_⟩) hHeld (fun hHeld => ?_)
      · (intro w1 hSw; have hSw := hSw.1; (try dsimp only at hSw); go_simp)
      simp only [List.getElem_toArray, List.getElem_cons_succ, List.getElem_cons_zero, Act.put, List.setIfInBounds_toArray, List.set_cons_zero, List.set_cons_succ]
      refine wpAnyS_take (i := 2) (v := .pointer (some ⟨w.heap.size, k * 7, none⟩)) _ rfl (by kernel_rfl) (by kernel_rfl) (by kernel_rfl) (by kernel_rfl) (by kernel_rfl) rfl (fun _ _ _ h => h) (Or.inl ⟨by rfl, ?_⟩) hHeld (fun hHeld => ?_)
      · (intro w1 hSw; have hSw := hSw.1; (try dsimp only at hSw); go_simp)
      simp only [List.getElem_toArray, List.getElem_cons_succ, List.getElem_cons_zero, Act.put, List.setIfInBounds_toArray, List.set_cons_zero, List.set_cons_succ]
      refine wpAnyS_take (i := 3) (v := .pointer (some ⟨w.heap.size, k * 7, none⟩)) _ rfl (by kernel_rfl) (by kernel_rfl) (by kernel_rfl) (by kernel_rfl) (by kernel_rfl) rfl (fun _ _ _ h => h) (Or.inl ⟨by rfl, ?_⟩) hHeld (fun hHeld => ?_)
      · (intro w1 hSw; have hSw := hSw.1; (try dsimp only at hSw); go_simp)
      simp only [List.getElem_toArray, List.getElem_cons_succ, List.getElem_cons_zero, Act.put, List.setIfInBounds_toArray, List.set_cons_zero, List.set_cons_succ]
      refine wpAnyS_take (i := 4) (v := .slice (some ⟨w2.heap.size, 0, none⟩) X.1.length X.1.length) true rfl (by kernel_rfl) (by kernel_rfl) (by kernel_rfl) (by kernel_rfl) (by kernel_rfl) (by kernel_rfl) (fun _ _ _ h => h) (Or.inl ⟨by rfl, ?_⟩) hHeld (fun hHeld => ?_)
      · (intro w1 hSw; have hSw2 := hSw.2 rfl; have hSw := hSw.1; (try dsimp only at hSw hSw2); go_simp)
      simp only [List.getElem_toArray, List.getElem_cons_succ, List.getElem_cons_zero, Act.put, List.setIfInBounds_toArray, List.set_cons_zero, List.set_cons_succ]
      refine wpAnyS_take (i := 5) (v := .pointer (some ⟨wr.heap.size, 0, none⟩)) _ rfl (by kernel_rfl) (by kernel_rfl) (by kernel_rfl) (by kernel_rfl) (by kernel_rfl) rfl (fun _ _ _ h => h) (Or.inl ⟨by rfl, ?_⟩) hHeld (fun hHeld => ?_)
      · (intro w1 hSw; have hSw := hSw.1; (try dsimp only at hSw); go_simp)
      simp only [List.getElem_toArray, List.getElem_cons_succ, List.getElem_cons_zero, Act.put, List.setIfInBounds_toArray, List.set_cons_zero, List.set_cons_succ]
      refine wpAnyS_take (i := 6) (v := .slice ak X.1.length ck) true rfl (by kernel_rfl) (by kernel_rfl) (by kernel_rfl) (by kernel_rfl) (by kernel_rfl) (by kernel_rfl) (fun _ _ _ h => h) (Or.inl ⟨by rfl, ?_⟩) hHeld (fun hHeld => ?_)
      · (intro w1 hSw; have hSw2 := hSw.2 rfl; have hSw := hSw.1; (try dsimp only at hSw hSw2); go_simp)
      simp only [List.getElem_toArray, List.getElem_cons_succ, List.getElem_cons_zero, Act.put, List.setIfInBounds_toArray, List.set_cons_zero, List.set_cons_succ]
      refine wpAnyS_ready (i := 7) (by kernel_rfl) rfl (fun K hK => ?_)
      go_simp
      refine hK.out _ _ ⟨?_, fun hno => absurd hno (by decide)⟩ (fun hHeld => ?_)
      · trivial
      clear hK K
      refine wpAnyS_done (by kernel_rfl) ?_ _
      refine NoPanic.normal ?_
      have HNX : Hid (CpI L w w.heap.size (k + 1) (xs ++ [⟨.slice (some ⟨w2.heap.size, 0, none⟩) X.1.length X.1.length, X.1, X.2⟩]) w5) := by
        have hr3 := row_kp (row_kp HC.out.r (Kp.of_below HB2.out)) (Kp.of_below HB3.out)
        have hrW := row_set7 (y := ⟨.slice (some ⟨w2.heap.size, 0, none⟩) X.1.length X.1.length, X.1, X.2⟩) hr3 HCUR3.out HW.out (by simp [HC.out.l]; omega)
        have hgl : w.heap.size < w2.heap.size := by
          have := (Array.getElem?_eq_some_iff.1 HCUR.out).1
          exact this
        have e1 : (xs ++ List.replicate (L.length - k) evZ).set k ⟨.slice (some ⟨w2.heap.size, 0, none⟩) X.1.length X.1.length, X.1, X.2⟩ = (xs ++ [⟨.slice (some ⟨w2.heap.size, 0, none⟩) X.1.length X.1.length, X.1, X.2⟩]) ++ List.replicate (L.length - (k + 1)) evZ := by
          rw [List.set_append_right _ _ (by rw [HC.out.l]; omega), HC.out.l, Nat.sub_self, show L.length - k = (L.length - (k + 1)) + 1 by omega, List.replicate_succ, List.set_cons_zero, List.append_assoc]
          rfl
        rw [e1] at hrW
        refine ⟨by simp [HC.out.l], ?_, ?_, fun x hx => ?_, HBW.out.trans hb5⟩
        · rw [List.map_append, HC.out.m, HTK.out]; rfl
        · have h1 : W.drew.ownsRow w.heap.size 36 7 (.slice (some ⟨w.heap.size, 0, none⟩) L.length L.length) L.length _ := hrW
          exact World.ownsRow.kept h1 hg5 (.inr (by simp [Value.ownBlock]; omega))
        · rcases List.mem_append.1 hx with hx | hx
          · have h1 := HC.out.o x hx
            have h2 : Own W.drew w.heap.size x.kv x.k := own_kp ((h1.below HB2.out).below HB3.out) hu
            refine World.ownsRow.kept h2 hg5 (.inr ?_)
            intro e
            have := (World.ownsRow.lt h1 _ e).2
            have := HB2.out.size
            omega
          · obtain rfl : x = ⟨.slice (some ⟨w2.heap.size, 0, none⟩) X.1.length X.1.length, X.1, X.2⟩ := by simpa using hx
            have h2 := ho5
            simpa using h2
      clear hr5 ho5 hb5 hg5 q0 q1
      go_wp2_with fail
      go_roundw
      case rel => exact ⟨k + 1, _, by omega, by go_num, HNX⟩
      case measure => simp [intOf]; omega
    · have hke : k = L.length := by omega
      have HEnd : Hid (CpPost L w (.returned (.slice (some ⟨w.heap.size, 0, none⟩) L.length L.length)) wr) := by
        subst hke
        have h1 := HC.out.r
        rw [Nat.sub_self, List.replicate_zero, List.append_nil] at h1
        refine ⟨_, xs, rfl, ⟨?_, HC.out.o⟩, by rw [HC.out.m, List.take_length], HC.out.b⟩
        rw [HC.out.l]; exact h1
      go_wp2_with fail
      go_ret
      exact HEnd.out
end Go.Proofs.Ytdamlnpfpfpeeaa
