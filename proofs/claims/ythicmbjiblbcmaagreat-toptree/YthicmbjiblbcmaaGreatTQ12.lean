/- CP1 MG9 MG10 MG11 MG17, joined. -/
import Derived.Test.YthicmbjiblbcmaaGreatTQ8
import Derived.Test.YthicmbjiblbcmaaGreatTQ11
import Derived.Laws.IdiomCopy
import Derived.Laws.AppendOwn
/- Bytes that are copied into the middle of bytes of one's own. -/
namespace Go.Proofs.YthicmbjiblbcmaaGreat
open Go.RowKit

theorem copy_gen {w : World} {base g n off m : Nat} {L l : List UInt8} {v : Value} (ty : TypeId) (hO : Own w base (.slice (some ⟨g, 0, none⟩) n n) L) (hR : Reads w v l) (hl : off + l.length ≤ n) (hm : m = n - off) :
    ∃ w3, (Builtin.copy_ #[49, 49] ty #[.slice (some ⟨g, off, none⟩) m m, v]).run Tryz.prog w = .ok (goInt l.length) w3 ∧ Own w3 base (.slice (some ⟨g, 0, none⟩) n n) (L.take off ++ l ++ L.drop (off + l.length)) ∧ Hid (Below base w w3) ∧ Hid (w.grownBy w3 (some g)) := by
  subst hm
  obtain ⟨i0, hi, hz0, hz1, hz2⟩ := info_parts info5
  have hLn : L.length = n := by
    obtain ⟨a, cap, hv, _⟩ := hO.form
    simp at hv; omega
  have hOw := hO
  obtain ⟨h1, h2⟩ := hO
  rcases h2 with ⟨h2, _⟩ | ⟨g', cap, cur, hv, hg, hw, hn, hm, hs, ht⟩
  · simp at h2
  · simp at hv
    obtain ⟨rfl, hv2, rfl⟩ := hv
    rcases hR with ⟨rfl, a, cp, rfl, _⟩ | ⟨b, o, cp, rfl, r2, r3, r4, r5, r6⟩
    · refine ⟨w, ?_, by simpa using hOw, Below.refl _ _, ⟨rfl, rfl, rfl, Nat.le_refl _, fun _ _ _ => rfl⟩⟩
      exact run_copy_none w 49 49 ty 5 _ a (n - off) (n - off) 0 cp Tryz.underlying49 (by rw [hi]; simp [hz1]) (Nat.zero_min _)
    · have hcl : cur.toList = L.map bc := by
        rw [← ht, List.take_of_length_le (by simp; omega)]
      have hrun := run_copy_row (P := Tryz.prog) w 49 49 ty 5 g off (n - off) (n - off) ⟨b, o, none⟩ l.length cp cur 5 (l.map bc) Tryz.underlying49 (by rw [hi]; simp [hz1]) hw (by rw [List.length_map]; exact (Nat.min_eq_left (by omega)).symm) (newsR r6) (by simp; omega) one_bc
      rw [List.length_map] at hrun
      refine ⟨_, hrun, ?_, below_setRow (Below.refl _ _) hg _, ?_⟩
      · have hheap := setRow_heap w g cur (cur.toList.take off ++ l.map bc ++ cur.toList.drop (off + l.length)).toArray 5 (0, 0) hw
        have e1 : cur.toList.take off ++ l.map bc ++ cur.toList.drop (off + l.length) = (L.take off ++ l ++ L.drop (off + l.length)).map bc := by
          rw [hcl]; simp
        rw [e1] at hheap ⊢
        have hlen : (L.take off ++ l ++ L.drop (off + l.length)).length = n := by simp; omega
        refine ⟨by simp, .inr ⟨g, n, _, by rw [hlen], hg, hheap, by omega, hm, by rw [List.size_toArray, List.length_map]; omega, ?_⟩⟩
        rw [hlen, List.toList_toArray, Nat.mul_one]; exact List.take_of_length_le (by rw [List.length_map]; omega)
      · have hb := below_setRow (Below.refl 0 w) (Nat.zero_le g) (cur.toList.take off ++ l.map bc ++ cur.toList.drop (off + l.length)).toArray
        refine ⟨rfl, rfl, rfl, hb.size, fun k hk hne => ?_⟩
        show (w.heap.modify g _)[k]? = _
        rw [Array.getElem?_modify, if_neg (fun e => hne (by rw [e]))]
end Go.Proofs.YthicmbjiblbcmaaGreat

/- The contract of copied. -/
namespace Go.Proofs.YthicmbjiblbcmaaGreat
open Go.RowKit

theorem infoEn : (Tryz.prog.info? 56).map (fun i => (i.zero, i.size, i.bytes)) = some (some (.agg #[.slice none 0 0, .int .u64 0, .bool false, .int .i64 0, .int .u64 0, .int .i64 0, .int .i64 0]), 7, 72) := by kernel_rfl
def evZ : Ev := ⟨.slice none 0 0, [], agZ⟩
theorem made7 : ∀ n : Nat, (madeCells (Value.agg #[.slice none 0 0, .int .u64 0, .bool false, .int .i64 0, .int .u64 0, .int .i64 0, .int .i64 0]).cells (n * 7)).toList = (List.replicate n evZ).flatMap c7 := by
  intro n
  apply List.ext_getElem?
  intro j
  by_cases hj : j < n * 7
  · have h1 : j / 7 < (List.replicate n evZ).length := by simp; omega
    have h2 := flat7 (List.replicate n evZ) (j / 7) (j % 7) h1 (by omega)
    rw [show 7 * (j / 7) + j % 7 = j by omega] at h2
    rw [h2]
    have h3 : (List.replicate n evZ)[j / 7]'h1 = evZ := by simp
    rw [h3]
    have h4 : j % 7 < 7 := by omega
    simp only [madeCells, Value.cells]
    rw [Array.getElem?_toList]
    simp [hj]
    have : ∀ r : Fin 7, (#[Value.slice none 0 0, .int .u64 0, .bool false, .int .i64 0, .int .u64 0, .int .i64 0, .int .i64 0] : Array Value)[r.val]? = (c7 evZ)[r.val]? := by
      intro r
      match r with
      | 0 | 1 | 2 | 3 | 4 | 5 | 6 => rfl
    have h5 := this ⟨j % 7, h4⟩
    simp only [] at h5
    rw [← h5]
    simp [h4]
  · rw [List.getElem?_eq_none (by simp [madeCells]; omega), List.getElem?_eq_none]
    have : ∀ xs : List Ev, (xs.flatMap c7).length = xs.length * 7 := by
      intro xs
      induction xs with
      | nil => rfl
      | cons x xs ih => rw [List.flatMap_cons, List.length_append, ih, c7_len]; simp; omega
    rw [this]; simp; omega
theorem flat7_len : ∀ xs : List Ev, (xs.flatMap c7).length = xs.length * 7
  | [] => rfl
  | x :: xs => by rw [List.flatMap_cons, List.length_append, flat7_len xs, c7_len]; simp; omega
theorem row_set7 {w W : World} {base g n cap k : Nat} {cur : Array Value} {ys : List Ev} {y : Ev} (h : w.ownsRow base 56 7 (.slice (some ⟨g, 0, none⟩) n cap) n (ys.flatMap c7)) (hcur : w.heap[g]? = some (.cells cur 56))
    (hW : StW w W g (k * 7) cur 56 (c7 y)) (hn : ys.length = n) : W.ownsRow base 56 7 (.slice (some ⟨g, 0, none⟩) n cap) n ((ys.set k y).flatMap c7) := by
  obtain ⟨h1, h2⟩ := h
  refine ⟨by rw [flat7_len, List.length_set, hn], ?_⟩
  rcases h2 with ⟨h2, _⟩ | ⟨g', cap', cur0, hv, hg, hw, hc, hx, hs, ht⟩
  · simp at h2
  · have hv' := hv
    simp at hv'
    obtain ⟨rfl, rfl⟩ := hv'
    obtain rfl : cur0 = cur := by rw [hw] at hcur; simpa using hcur
    obtain ⟨cur', k1, k2, k3, k4⟩ := hW.c
    refine .inr ⟨g, cap, cur', rfl, hg, k1, hc, hx, by omega, ?_⟩
    apply List.ext_getElem?
    intro j
    rw [List.getElem?_take]
    by_cases hj : j < n * 7
    · rw [if_pos hj, Array.getElem?_toList]
      have hj7 : j / 7 < (ys.set k y).length := by simp; omega
      have e1 := flat7 (ys.set k y) (j / 7) (j % 7) hj7 (by omega)
      rw [show 7 * (j / 7) + j % 7 = j by omega] at e1
      rw [e1]
      by_cases hjk : j / 7 = k
      · have e2 : (ys.set k y)[j / 7]'hj7 = y := by simp [hjk]
        rw [e2]
        have := k4 (j % 7) (by rw [c7_len]; omega)
        rw [show k * 7 + j % 7 = j by omega] at this
        rw [this, List.getElem?_eq_getElem]
      · rw [k3 j (by rw [c7_len]; omega)]
        have e2 : (ys.set k y)[j / 7]'hj7 = ys[j / 7]'(by simpa using hj7) := by
          rw [List.getElem_set]; rw [if_neg (fun e => hjk e.symm)]
        rw [e2]
        have e3 := flat7 ys (j / 7) (j % 7) (by simpa using hj7) (by omega)
        rw [show 7 * (j / 7) + j % 7 = j by omega] at e3
        rw [← e3, ← ht, List.getElem?_take, if_pos hj, Array.getElem?_toList]
    · rw [if_neg hj, List.getElem?_eq_none (by rw [flat7_len, List.length_set]; omega)]
def CpPost (L : List En) (w : World) (e : Ending) (w' : World) : Prop := ∃ g xs, e = .returned (.slice (some ⟨g, 0, none⟩) L.length L.length) ∧ EOwn w' w.heap.size (.slice (some ⟨g, 0, none⟩) L.length L.length) xs ∧ xs.map evE = L ∧ Below w.heap.size w w'
/-- What the loop of copied keeps. -/
structure CpI (L : List En) (w : World) (g k : Nat) (xs : List Ev) (wr : World) : Prop where
  l : xs.length = k
  m : xs.map evE = L.take k
  r : wr.ownsRow w.heap.size 56 7 (.slice (some ⟨g, 0, none⟩) L.length L.length) L.length ((xs ++ List.replicate (L.length - k) evZ).flatMap c7)
  o : ∀ x ∈ xs, Own wr w.heap.size x.kv x.k
  b : Below w.heap.size w wr
set_option maxRecDepth 100000 in
set_option maxHeartbeats 4000000 in
theorem copied_some (b off cap : Nat) (L : List En) (w : World) (hE : EReads w (.slice (some ⟨b, off, none⟩) L.length cap) L) (hL : L.length ≤ 100000) (hK : ∀ x ∈ L, x.1.length ≤ 100000) :
    Calls Tryz.prog 43 #[.slice (some ⟨b, off, none⟩) L.length cap] w (CpPost L w) := by
  have HE : Hid (EReads w (.slice (some ⟨b, off, none⟩) L.length cap) L) := hE
  obtain ⟨hm1, hm2⟩ := eReads_cap hE
  unfold maxLen at hm2
  clear hE
  have HK : Hid _ := hK
  clear hK
  obtain ⟨i0, hi, hz0, hz1, hz2⟩ := info_parts infoEn
  obtain ⟨w0, hr0, hown0, hg0⟩ := run_make_full (P := Tryz.prog) w w.heap.size 31 56 i0 _ 7 Tryz.underlying31 hi hz0 hz1 .i64 .i64 L.length (by rw [hz2]; omega) (by unfold maxLen; omega) (Nat.le_refl _)
  rw [made7] at hown0
  have HI0 : Hid (CpI L w w.heap.size 0 [] w0) := ⟨rfl, rfl, by simpa using hown0, fun x hx => (by cases hx), (Below.refl _ _).grown hg0 (Nat.le_refl _) (fun k e => by cases e)⟩
  clear hown0 hg0 hi hz0 hz1 hz2
  go_enter Tryz.func43, Tryz.ntmps43
  go_wp2_with fail
  go_loopw [11] (fun i wr => ∃ (k : Nat) (xs : List Ev), k ≤ L.length ∧ i = .int .i64 (k : Int) ∧ Hid (CpI L w w.heap.size k xs wr)) (fun i _ => L.length - (intOf i).toNat)
  case atStart => exact ⟨0, [], by omega, rfl, HI0⟩
  case round =>
    clear HI0 hr0
    obtain ⟨k, xs, hk, rfl, HC⟩ := hrel
    by_cases hlt : k < L.length
    · obtain ⟨kv, hcw, hRw, hA⟩ := eReads_at HE.out hlt rfl
      have hbw := (cell_block (hcw 0 (by decide))).1
      simp only at hbw
      have hc : ∀ i (hi : i < 7), wr.cell? ⟨b, off + k * 7 + i, none⟩ = some ((c7 ⟨kv, L[k].1, L[k].2⟩)[i]'hi) := fun i hi => (HC.out.b.cell (p := ⟨b, off + k * 7 + i, none⟩) hbw).trans (hcw i hi)
      have hR := hRw.below HC.out.b
      have hkl := HK.out L[k] (List.getElem_mem hlt)
      have HTK : Hid (L.take (k + 1) = L.take k ++ [L[k]]) := by unfold Hid; rw [List.take_add_one, List.getElem?_eq_getElem hlt]; rfl
      obtain ⟨X, HX⟩ := hid_ex L[k]
      rw [← HX.out] at hR hRw hA hc hkl HTK
      clear hcw
      have c0 := hc 0 (by decide)
      have c1 := hc 1 (by decide)
      have c2 := hc 2 (by decide)
      have c3 := hc 3 (by decide)
      have c4 := hc 4 (by decide)
      have c5 := hc 5 (by decide)
      have c6 := hc 6 (by decide)
      simp only [c7, List.getElem_cons_zero, List.getElem_cons_succ, Nat.add_zero] at c0 c1 c2 c3 c4 c5 c6
      obtain ⟨ak, ck, hkv, _⟩ := hR.form
      subst hkv
      have HRw : Hid (Reads w (.slice ak X.1.length ck) X.1) := hRw
      obtain ⟨w2, HW2⟩ := hid_ex (wr.alloc (.cells #[.slice ak X.1.length ck, .int .u64 X.2.c, .bool X.2.o, .int .i64 (hi X.2.s), .int .u64 (lo X.2.s), .int .i64 X.2.mn, .int .i64 X.2.mx] 56))
      have hb2 : Below wr.heap.size wr w2 := by rw [HW2.out]; exact (Below.refl _ _).alloc (Nat.le_refl _) _
      have HB2 : Hid (Below wr.heap.size wr w2) := hb2
      have HR2 : Hid (Reads w2 (.slice ak X.1.length ck) X.1) := hR.below hb2
      have HBX : Hid (w2.heap[wr.heap.size]? = some (.cells #[.slice ak X.1.length ck, .int .u64 X.2.c, .bool X.2.o, .int .i64 (hi X.2.s), .int .u64 (lo X.2.s), .int .i64 X.2.mn, .int .i64 X.2.mx] 56)) := by rw [HW2.out]; exact heap_alloc_new _ _
      have hszl : w.heap.size ≤ w2.heap.size := Nat.le_trans HC.out.b.size hb2.size
      obtain ⟨cur, hcur⟩ := row_block HC.out.r
      have HCUR : Hid (w2.heap[w.heap.size]? = some (.cells cur 56)) := (hb2.block _ (Array.getElem?_eq_some_iff.1 hcur).1).trans hcur
      have hfit : k * 7 + 7 ≤ cur.size := by
        rcases HC.out.r.2 with ⟨q, _⟩ | ⟨g', c', cur0, q, _, hw, hc1, _, hs, _⟩
        · simp at q
        · simp at q
          obtain ⟨rfl, rfl⟩ := q
          rw [hcur] at hw
          simp at hw
          subst hw
          omega
      obtain ⟨j0, ji, jz0, jz1, jz2⟩ := info_parts info5
      obtain ⟨w3, hr3, hown3, hg3⟩ := run_make_full (P := Tryz.prog) w2.drew w.heap.size 49 5 j0 (.int .u8 0) 1 Tryz.underlying49 ji jz0 jz1 .i64 .i64 X.1.length (by rw [jz2]; omega) (by unfold maxLen; omega) hszl
      have hsd : w2.drew.heap.size = w2.heap.size := rfl
      rw [hsd] at hr3 hown3
      rw [Nat.mul_one] at hown3
      have HO3 : Hid (Own w3 w.heap.size (.slice (some ⟨w2.heap.size, 0, none⟩) X.1.length X.1.length) (List.replicate X.1.length 0)) := own_zeros hown3
      have HB3 : Hid (Below w2.heap.size w2 w3) := (Below.refl w2.heap.size w2).drew.grown hg3 (Nat.le_refl _) (fun k e => by cases e)
      have b0 := (cell_row HBX.out 0 (by simp)).1
      have b1 := (cell_row HBX.out 1 (by simp)).1
      have b2 := (cell_row HBX.out 2 (by simp)).1
      have b3 := (cell_row HBX.out 3 (by simp)).1
      have b4 := (cell_row HBX.out 4 (by simp)).1
      have b5 := (cell_row HBX.out 5 (by simp)).1
      have b6 := (cell_row HBX.out 6 (by simp)).1
      have hbb := (Array.getElem?_eq_some_iff.1 HBX.out).1
      simp only [List.getElem_toArray, List.getElem_cons_zero, List.getElem_cons_succ] at b0 b1 b2 b3 b4 b5 b6
      clear hc hR hRw hb2 hown3 hg3 hsd ji jz0 jz1 jz2 hcur
      go_wp2_with fail
      rw [← HW2.out]
      clear c0 c1 c2 c3 c4 c5 c6
      refine wp_region_noPanic ?_
      refine wp_region_S 10 (fun _ => True) (fun w' => w'.cell? ⟨wr.heap.size, 0, none⟩ = some (.slice ak X.1.length ck) ∧ w'.cell? ⟨wr.heap.size, 1, none⟩ = some (.int .u64 X.2.c) ∧ w'.cell? ⟨wr.heap.size, 2, none⟩ = some (.bool X.2.o) ∧ w'.cell? ⟨wr.heap.size, 3, none⟩ = some (.int .i64 (hi X.2.s)) ∧ w'.cell? ⟨wr.heap.size, 4, none⟩ = some (.int .u64 (lo X.2.s)) ∧ w'.cell? ⟨wr.heap.size, 5, none⟩ = some (.int .i64 X.2.mn) ∧ w'.cell? ⟨wr.heap.size, 6, none⟩ = some (.int .i64 X.2.mx)) (by kernel_rfl) ?_ ?_ (fun hHeld => ?_)
      · trivial
      · exact ⟨b0, b1, b2, b3, b4, b5, b6⟩
      refine wpAnyS_take (i := 0) (v := .slice (some ⟨w.heap.size, 0, none⟩) L.length L.length) _ rfl (by kernel_rfl) (by kernel_rfl) (by kernel_rfl) (by kernel_rfl) (by kernel_rfl) rfl (fun _ _ _ h => h) (Or.inl ⟨by rfl, ?_⟩) hHeld (fun hHeld => ?_)
      · (intro w1 hSw; have hSw := hSw.1; (try dsimp only at hSw); go_simp)
      simp only [List.getElem_toArray, List.getElem_cons_zero, Act.put, List.setIfInBounds_toArray, List.set_cons_zero, List.set_cons_succ]
      refine wpAnyS_take (i := 1) (v := .int .i64 (k : Int)) _ rfl (by kernel_rfl) (by kernel_rfl) (by kernel_rfl) (by kernel_rfl) (by kernel_rfl) rfl (fun _ _ _ h => h) (Or.inl ⟨by rfl, ?_⟩) hHeld (fun hHeld => ?_)
      · (intro w1 hSw; have hSw := hSw.1; (try dsimp only at hSw); go_simp)
      simp only [List.getElem_toArray, List.getElem_cons_succ, List.getElem_cons_zero, Act.put, List.setIfInBounds_toArray, List.set_cons_zero, List.set_cons_succ]
      refine wpAnyS_take (i := 2) (v := .pointer (some ⟨wr.heap.size, 0, none⟩)) _ rfl (by kernel_rfl) (by kernel_rfl) (by kernel_rfl) (by kernel_rfl) (by kernel_rfl) rfl (fun _ _ _ h => h) (Or.inl ⟨by rfl, ?_⟩) hHeld (fun hHeld => ?_)
      · (intro w1 hSw; have hSw := hSw.1; (try dsimp only at hSw); go_simp)
      simp only [List.getElem_toArray, List.getElem_cons_succ, List.getElem_cons_zero, Act.put, List.setIfInBounds_toArray, List.set_cons_zero, List.set_cons_succ]
      refine wpAnyS_take (i := 3) (v := .slice ak X.1.length ck) true rfl (by kernel_rfl) (by kernel_rfl) (by kernel_rfl) (by kernel_rfl) (by kernel_rfl) (by kernel_rfl) (fun _ _ _ h => h) (Or.inl ⟨by rfl, ?_⟩) hHeld (fun hHeld => ?_)
      · (intro w1 hSw; have hSw2 := hSw.2 rfl; have hSw := hSw.1; (try dsimp only at hSw hSw2); go_simp)
      simp only [List.getElem_toArray, List.getElem_cons_succ, List.getElem_cons_zero, Act.put, List.setIfInBounds_toArray, List.set_cons_zero, List.set_cons_succ]
      refine wpAnyS_take (i := 4) (v := .int .i64 (X.1.length : Int)) _ rfl (by kernel_rfl) (by kernel_rfl) (by kernel_rfl) (by kernel_rfl) (by kernel_rfl) rfl (fun _ _ _ h => h) (Or.inl ⟨by rfl, ?_⟩) hHeld (fun hHeld => ?_)
      · (intro w1 hSw; have hSw := hSw.1; (try dsimp only at hSw); go_simp)
      simp only [List.getElem_toArray, List.getElem_cons_succ, List.getElem_cons_zero, Act.put, List.setIfInBounds_toArray, List.set_cons_zero, List.set_cons_succ]
      refine wpAnyS_take (i := 6) (v := .pointer (some ⟨wr.heap.size, 1, none⟩)) _ rfl (by kernel_rfl) (by kernel_rfl) (by kernel_rfl) (by kernel_rfl) (by kernel_rfl) rfl (fun _ _ _ h => h) (Or.inl ⟨by rfl, ?_⟩) hHeld (fun hHeld => ?_)
      · (intro w1 hSw; have hSw := hSw.1; (try dsimp only at hSw); go_simp)
      simp only [List.getElem_toArray, List.getElem_cons_succ, List.getElem_cons_zero, Act.put, List.setIfInBounds_toArray, List.set_cons_zero, List.set_cons_succ]
      refine wpAnyS_take (i := 7) (v := .agg #[.int .u64 X.2.c, .bool X.2.o, .int .i64 (hi X.2.s), .int .u64 (lo X.2.s), .int .i64 X.2.mn, .int .i64 X.2.mx]) true rfl (by kernel_rfl) (by kernel_rfl) (by kernel_rfl) (by kernel_rfl) (by kernel_rfl) (by kernel_rfl) (fun _ _ _ h => h) (Or.inl ⟨by rfl, ?_⟩) hHeld (fun hHeld => ?_)
      · (intro w1 hSw; have hSw2 := hSw.2 rfl; have hSw := hSw.1; (try dsimp only at hSw hSw2); go_simp)
      simp only [List.getElem_toArray, List.getElem_cons_succ, List.getElem_cons_zero, Act.put, List.setIfInBounds_toArray, List.set_cons_zero, List.set_cons_succ]
      refine wpAnyS_ready (i := 5) (by kernel_rfl) rfl (fun K hK => ?_)
      go_simp
      refine hK.out _ _ ⟨?_, fun _ => ?_⟩ (fun hHeld => ?_)
      · trivial
      · exact ⟨(HB3.out.cell (p := ⟨wr.heap.size, 0, none⟩) hbb).trans b0, (HB3.out.cell (p := ⟨wr.heap.size, 1, none⟩) hbb).trans b1, (HB3.out.cell (p := ⟨wr.heap.size, 2, none⟩) hbb).trans b2, (HB3.out.cell (p := ⟨wr.heap.size, 3, none⟩) hbb).trans b3, (HB3.out.cell (p := ⟨wr.heap.size, 4, none⟩) hbb).trans b4, (HB3.out.cell (p := ⟨wr.heap.size, 5, none⟩) hbb).trans b5, (HB3.out.cell (p := ⟨wr.heap.size, 6, none⟩) hbb).trans b6⟩
      clear hK K
      refine wpAnyS_take (i := 8) (v := .agg #[.slice (some ⟨w2.heap.size, 0, none⟩) X.1.length X.1.length, .int .u64 X.2.c, .bool X.2.o, .int .i64 (hi X.2.s), .int .u64 (lo X.2.s), .int .i64 X.2.mn, .int .i64 X.2.mx]) _ rfl (by kernel_rfl) (by kernel_rfl) (by kernel_rfl) (by kernel_rfl) (by kernel_rfl) rfl (fun _ _ _ h => h) (Or.inl ⟨by rfl, ?_⟩) hHeld (fun hHeld => ?_)
      · (intro w1 hSw; have hSw := hSw.1; (try dsimp only at hSw); go_simp)
      simp only [List.getElem_toArray, List.getElem_cons_succ, List.getElem_cons_zero, Act.put, List.setIfInBounds_toArray, List.set_cons_zero, List.set_cons_succ]
      refine wpAnyS_take (i := 9) (v := .pointer (some ⟨w.heap.size, k * 7, none⟩)) _ rfl (by kernel_rfl) (by kernel_rfl) (by kernel_rfl) (by kernel_rfl) (by kernel_rfl) rfl (fun _ _ _ h => h) (Or.inl ⟨by rfl, ?_⟩) hHeld (fun hHeld => ?_)
      · (intro w1 hSw; have hSw := hSw.1; (try dsimp only at hSw); go_simp)
      simp only [List.getElem_toArray, List.getElem_cons_succ, List.getElem_cons_zero, Act.put, List.setIfInBounds_toArray, List.set_cons_zero, List.set_cons_succ]
      have HCUR3 : Hid (w3.heap[w.heap.size]? = some (.cells cur 56)) := (HB3.out.block _ (Array.getElem?_eq_some_iff.1 HCUR.out).1).trans HCUR.out
      refine wpAnyS_ready (i := 10) (by kernel_rfl) rfl (fun K hK => ?_)
      rw [if_pos (by rfl)]
      refine wp_storeN _ _ _ rfl w.heap.size (k * 7) (c7 ⟨.slice (some ⟨w2.heap.size, 0, none⟩) X.1.length X.1.length, [], X.2⟩) rfl rfl cur _ HCUR3.out hfit (by kernel_rfl) (by kernel_rfl) (fun W hW => ?_)
      refine hK.out _ _ ⟨?_, fun hno => absurd hno (by decide)⟩ (fun hHeld => ?_)
      · trivial
      clear hK K
      refine wpAnyS_done (by kernel_rfl) ?_ _
      refine NoPanic.normal ?_
      have HW : Hid _ := hW
      have q0 : W.cell? ⟨w.heap.size, k * 7, none⟩ = some (.slice (some ⟨w2.heap.size, 0, none⟩) X.1.length X.1.length) := by
        obtain ⟨cur', k1, k2, k3, k4⟩ := hW.c
        have := k4 0 (by rw [c7_len]; omega)
        rw [Go.Joins.cell_of_block k1]; exact this
      have hne : wr.heap.size ≠ w.heap.size := fun e => by
        have h1 := HC.out.b.size
        have h2 := (Array.getElem?_eq_some_iff.1 (row_block HC.out.r).choose_spec).1
        omega
      have q1 : W.cell? ⟨wr.heap.size, 0, none⟩ = some (.slice ak X.1.length ck) := (World.cell?_of_block (hW.o wr.heap.size hne)).trans ((HB3.out.cell (p := ⟨wr.heap.size, 0, none⟩) hbb).trans b0)
      have HBW : Hid (Below w.heap.size w W.drew) := (((HC.out.b.trans (HB2.out.mono HC.out.b.size)).trans (HB3.out.mono hszl)).trans (hW.b _ (Nat.le_refl _))).drew
      have hu : ∀ (k : Nat) (cs : Array Value) (fr : Nat × Nat), w3.heap[k]? = some (Obj.cells cs 5 fr) → W.heap[k]? = some (Obj.cells cs 5 fr) := fun k cs fr q => (hW.o k (typ_ne q HCUR3.out (by decide))).trans q
      have HOW : Hid (Own W.drew w.heap.size (.slice (some ⟨w2.heap.size, 0, none⟩) X.1.length X.1.length) (List.replicate X.1.length 0)) := own_kp HO3.out hu
      have HRW : Hid (Reads W.drew (.slice ak X.1.length ck) X.1) := HRw.out.below HBW.out
      obtain ⟨w5, hr5, ho5, hb5, hg5⟩ := copy_gen (w := W.drew) (off := 0) (m := X.1.length) 3 HOW.out HRW.out (by omega) (by omega)
      clear hW b0 b1 b2 b3 b4 b5 b6 hr3
      go_wp2_with fail
      refine wp_region_noPanic ?_
      refine wp_region_S 7 (fun _ => True) (fun w' => w'.cell? ⟨w.heap.size, k * 7, none⟩ = some (.slice (some ⟨w2.heap.size, 0, none⟩) X.1.length X.1.length) ∧ w'.cell? ⟨wr.heap.size, 0, none⟩ = some (.slice ak X.1.length ck)) (by kernel_rfl) ?_ ?_ (fun hHeld => ?_)
      · trivial
      · exact ⟨q0, q1⟩
      refine wpAnyS_take (i := 0) (v := .slice (some ⟨w.heap.size, 0, none⟩) L.length L.length) _ rfl (by kernel_rfl) (by kernel_rfl) (by kernel_rfl) (by kernel_rfl) (by kernel_rfl) rfl (fun _ _ _ h => h) (Or.inl ⟨by rfl, ?_⟩) hHeld (fun hHeld => ?_)
      · (intro w1 hSw; have hSw := hSw.1; (try dsimp only at hSw); go_simp)
      simp only [List.getElem_toArray, List.getElem_cons_zero, Act.put, List.setIfInBounds_toArray]
      refine wpAnyS_take (i := 1) (v := .int .i64 (k : Int)) _ rfl (by kernel_rfl) (by kernel_rfl) (by kernel_rfl) (by kernel_rfl) (by kernel_rfl) rfl (fun _ _ _ h => h) (Or.inl ⟨by rfl, ?_⟩) hHeld (fun hHeld => ?_)
      · (intro w1 hSw; have hSw := hSw.1; (try dsimp only at hSw); go_simp)
      simp only [List.getElem_toArray, List.getElem_cons_succ, List.getElem_cons_zero, Act.put, List.setIfInBounds_toArray, List.set_cons_zero, List.set_cons_succ]
      refine wpAnyS_take (i := 2) (v := .pointer (some ⟨w.heap.size, k * 7, none⟩)) _ rfl (by kernel_rfl) (by kernel_rfl) (by kernel_rfl) (by kernel_rfl) (by kernel_rfl) rfl (fun _ _ _ h => h) (Or.inl ⟨by rfl, ?_⟩) hHeld (fun hHeld => ?_)
      · (intro w1 hSw; have hSw := hSw.1; (try dsimp only at hSw); go_simp)
      simp only [List.getElem_toArray, List.getElem_cons_succ, List.getElem_cons_zero, Act.put, List.setIfInBounds_toArray, List.set_cons_zero, List.set_cons_succ]
      refine wpAnyS_take (i := 3) (v := .pointer (some ⟨w.heap.size, k * 7, none⟩)) _ rfl (by kernel_rfl) (by kernel_rfl) (by kernel_rfl) (by kernel_rfl) (by kernel_rfl) rfl (fun _ _ _ h => h) (Or.inl ⟨by rfl, ?_⟩) hHeld (fun hHeld => ?_)
      · (intro w1 hSw; have hSw := hSw.1; (try dsimp only at hSw); go_simp)
      simp only [List.getElem_toArray, List.getElem_cons_succ, List.getElem_cons_zero, Act.put, List.setIfInBounds_toArray, List.set_cons_zero, List.set_cons_succ]
      refine wpAnyS_take (i := 4) (v := .slice (some ⟨w2.heap.size, 0, none⟩) X.1.length X.1.length) true rfl (by kernel_rfl) (by kernel_rfl) (by kernel_rfl) (by kernel_rfl) (by kernel_rfl) (by kernel_rfl) (fun _ _ _ h => h) (Or.inl ⟨by rfl, ?_⟩) hHeld (fun hHeld => ?_)
      · (intro w1 hSw; have hSw2 := hSw.2 rfl; have hSw := hSw.1; (try dsimp only at hSw hSw2); go_simp)
      simp only [List.getElem_toArray, List.getElem_cons_succ, List.getElem_cons_zero, Act.put, List.setIfInBounds_toArray, List.set_cons_zero, List.set_cons_succ]
      refine wpAnyS_take (i := 5) (v := .pointer (some ⟨wr.heap.size, 0, none⟩)) _ rfl (by kernel_rfl) (by kernel_rfl) (by kernel_rfl) (by kernel_rfl) (by kernel_rfl) rfl (fun _ _ _ h => h) (Or.inl ⟨by rfl, ?_⟩) hHeld (fun hHeld => ?_)
      · (intro w1 hSw; have hSw := hSw.1; (try dsimp only at hSw); go_simp)
      simp only [List.getElem_toArray, List.getElem_cons_succ, List.getElem_cons_zero, Act.put, List.setIfInBounds_toArray, List.set_cons_zero, List.set_cons_succ]
      refine wpAnyS_take (i := 6) (v := .slice ak X.1.length ck) true rfl (by kernel_rfl) (by kernel_rfl) (by kernel_rfl) (by kernel_rfl) (by kernel_rfl) (by kernel_rfl) (fun _ _ _ h => h) (Or.inl ⟨by rfl, ?_⟩) hHeld (fun hHeld => ?_)
      · (intro w1 hSw; have hSw2 := hSw.2 rfl; have hSw := hSw.1; (try dsimp only at hSw hSw2); go_simp)
      simp only [List.getElem_toArray, List.getElem_cons_succ, List.getElem_cons_zero, Act.put, List.setIfInBounds_toArray, List.set_cons_zero, List.set_cons_succ]
      refine wpAnyS_ready (i := 7) (by kernel_rfl) rfl (fun K hK => ?_)
      go_simp
      refine hK.out _ _ ⟨?_, fun hno => absurd hno (by decide)⟩ (fun hHeld => ?_)
      · trivial
      clear hK K
      refine wpAnyS_done (by kernel_rfl) ?_ _
      refine NoPanic.normal ?_
      have HNX : Hid (CpI L w w.heap.size (k + 1) (xs ++ [⟨.slice (some ⟨w2.heap.size, 0, none⟩) X.1.length X.1.length, X.1, X.2⟩]) w5) := by
        have hr3 := row_kp (row_kp HC.out.r (Kp.of_below HB2.out)) (Kp.of_below HB3.out)
        have hrW := row_set7 (y := ⟨.slice (some ⟨w2.heap.size, 0, none⟩) X.1.length X.1.length, X.1, X.2⟩) hr3 HCUR3.out HW.out (by simp [HC.out.l]; omega)
        have hgl : w.heap.size < w2.heap.size := by
          have := (Array.getElem?_eq_some_iff.1 HCUR.out).1
          exact this
        have e1 : (xs ++ List.replicate (L.length - k) evZ).set k ⟨.slice (some ⟨w2.heap.size, 0, none⟩) X.1.length X.1.length, X.1, X.2⟩ = (xs ++ [⟨.slice (some ⟨w2.heap.size, 0, none⟩) X.1.length X.1.length, X.1, X.2⟩]) ++ List.replicate (L.length - (k + 1)) evZ := by
          rw [List.set_append_right _ _ (by rw [HC.out.l]; omega), HC.out.l, Nat.sub_self, show L.length - k = (L.length - (k + 1)) + 1 by omega, List.replicate_succ, List.set_cons_zero, List.append_assoc]
          rfl
        rw [e1] at hrW
        refine ⟨by simp [HC.out.l], ?_, ?_, fun x hx => ?_, HBW.out.trans hb5⟩
        · rw [List.map_append, HC.out.m, HTK.out]; rfl
        · have h1 : W.drew.ownsRow w.heap.size 56 7 (.slice (some ⟨w.heap.size, 0, none⟩) L.length L.length) L.length _ := hrW
          exact World.ownsRow.kept h1 hg5 (.inr (by simp [Value.ownBlock]; omega))
        · rcases List.mem_append.1 hx with hx | hx
          · have h1 := HC.out.o x hx
            have h2 : Own W.drew w.heap.size x.kv x.k := own_kp ((h1.below HB2.out).below HB3.out) hu
            refine World.ownsRow.kept h2 hg5 (.inr ?_)
            intro e
            have := (World.ownsRow.lt h1 _ e).2
            have := HB2.out.size
            omega
          · obtain rfl : x = ⟨.slice (some ⟨w2.heap.size, 0, none⟩) X.1.length X.1.length, X.1, X.2⟩ := by simpa using hx
            have h2 := ho5
            simpa using h2
      clear hr5 ho5 hb5 hg5 q0 q1
      go_wp2_with fail
      go_roundw
      case rel => exact ⟨k + 1, _, by omega, by go_num, HNX⟩
      case measure => simp [intOf]; omega
    · have hke : k = L.length := by omega
      have HEnd : Hid (CpPost L w (.returned (.slice (some ⟨w.heap.size, 0, none⟩) L.length L.length)) wr) := by
        subst hke
        have h1 := HC.out.r
        rw [Nat.sub_self, List.replicate_zero, List.append_nil] at h1
        refine ⟨_, xs, rfl, ⟨?_, HC.out.o⟩, by rw [HC.out.m, List.take_length], HC.out.b⟩
        rw [HC.out.l]; exact h1
      go_wp2_with fail
      go_ret
      exact HEnd.out
end Go.Proofs.YthicmbjiblbcmaaGreat

/- One more part of a heap; the contract of New. -/
namespace Go.Proofs.YthicmbjiblbcmaaGreat
open Go.RowKit

theorem infoPt : (Tryz.prog.info? 115).map (fun i => (i.zero, i.size, i.bytes)) = some (some (.agg #[.slice none 0 0, .int .i64 0]), 2, 32) := by kernel_rfl
theorem partsF_append : ∀ (rs ss : List (List En)) (i : Nat), partsF i (rs ++ ss) = partsF i rs ++ partsF (i + rs.length) ss
  | [], ss, i => by simp [partsF]
  | r :: rs, ss, i => by
    have ih := partsF_append rs ss (i + 1)
    rw [List.cons_append, partsF, partsF, ih, show i + 1 + rs.length = i + (r :: rs).length by simp; omega]
    split <;> rfl
theorem partsF_snoc {rs : List (List En)} {k : Nat} (hk : k < rs.length) : partsF 0 (rs.take (k + 1)) = partsF 0 (rs.take k) ++ (if rs[k] = [] then [] else [(rs[k], k)]) := by
  rw [List.take_add_one, List.getElem?_eq_getElem hk]
  show partsF 0 (rs.take k ++ [rs[k]]) = _
  rw [partsF_append]
  congr 1
  have : (rs.take k).length = k := by simp; omega
  rw [this, Nat.zero_add]
  unfold partsF
  split <;> rfl
theorem HM.mono {w : World} {lo hh hh' h : Nat} {P : List Pt} (H : HM w lo hh h P) (hl : hh ≤ hh') : HM w lo hh' h P := by
  obtain ⟨v, h1, h2, h3⟩ := H.hd
  exact ⟨H.h1, Nat.lt_of_lt_of_le H.h2 hl, ⟨v, h1, h2, fun k hk => Nat.lt_of_lt_of_le (h3 k hk) hl⟩, fun p hp => ⟨(H.pt p hp).g1, Nat.lt_of_lt_of_le (H.pt p hp).g2 hl, (H.pt p hp).n1, (H.pt p hp).n2, (H.pt p hp).n3, (H.pt p hp).ce, (H.pt p hp).ky⟩, H.nd, H.le⟩
theorem ptOk_of {w : World} {lo hh base g n : Nat} {xs : List Ev} {r : Nat} (h : EOwn w base (.slice (some ⟨g, 0, none⟩) n n) xs) (hb : lo ≤ base) (hn : xs.length = n) (h0 : 0 < n) (hg : g < hh) : PtOk w lo hh ⟨g, 0, n, xs, r⟩ := by
  obtain ⟨h1, h2⟩ := h
  have hlt := World.ownsRow.lt h1 g rfl
  rcases h1.2 with ⟨q, _⟩ | ⟨g', c', cur, q, hg', hw, hc, hx, hs, ht⟩
  · simp at q
  · have q' := q
    simp at q'
    obtain ⟨rfl, e, rfl⟩ := q'
    refine ⟨by show lo ≤ g; omega, hg, by show 0 < xs.length; omega, by show xs.length ≤ n; omega, by show n ≤ _; exact hx, ⟨cur, hw, fun j hj i hi => ?_⟩, fun x hx => (h2 x hx).mono hb⟩
    have hj' : j < xs.length := hj
    have h3 := flat7 xs j i hj' hi
    rw [← ht, List.getElem?_take, if_pos (by omega), Array.getElem?_toList] at h3
    show cur[0 + (7 * j + i)]? = _
    rw [Nat.zero_add, h3, List.getElem?_eq_getElem (show i < (c7 xs[j]).length from hi)]
    rfl
/-- A part is added. -/
theorem HM.add {w w1 : World} {lo h : Nat} {P : List Pt} {p : Pt} {a : Option Addr} {n cap g' cap' : Nat} {tmp : Obj} (H : HM w lo w.heap.size h P) (hv : w.heap[h]? = some (.cells #[.slice a n cap] 112)) (hrow : w.ownsRow lo 115 2 (.slice a n cap) n (P.flatMap p2))
    (hp : PtOk w lo w.heap.size p) (hnew : ∀ q ∈ P, q.g ≠ p.g) (hle : P.length < 100000)
    (ho : w1.ownsRow lo 115 2 (.slice (some ⟨g', 0, none⟩) (P.length + 1) cap') (P.length + 1) (P.flatMap p2 ++ [lv p, .int .i64 (p.r : Int)])) (hg : (w.alloc tmp).grownBy w1 (Value.slice a n cap).ownBlock) :
    HM (w1.setCell ⟨h, 0, none⟩ (.slice (some ⟨g', 0, none⟩) (P.length + 1) cap')) lo w1.heap.size h (P ++ [p]) ∧ Below lo w (w1.setCell ⟨h, 0, none⟩ (.slice (some ⟨g', 0, none⟩) (P.length + 1) cap')) ∧ (w1.setCell ⟨h, 0, none⟩ (.slice (some ⟨g', 0, none⟩) (P.length + 1) cap')).heap.size = w1.heap.size := by
  have hsz : w.heap.size ≤ w1.heap.size := by have := hg.size; simp at this; omega
  have hrb : ∀ k, (Value.slice a n cap).ownBlock = some k → ∃ cur, w.heap[k]? = some (.cells cur 115) := by
    intro k hk
    rcases hrow.2 with ⟨q, _⟩ | ⟨g0, c0, cur, q, _, hw, _⟩
    · simp at q; rw [q.1] at hk; simp [Value.ownBlock] at hk
    · simp at q
      rw [q.1] at hk
      simp [Value.ownBlock] at hk
      subst hk
      exact ⟨cur, hw⟩
  have hk1 : ∀ (k : Nat) (cs : Array Value) (T : TypeId) (fr : Nat × Nat), T ≠ 115 → w.heap[k]? = some (.cells cs T fr) → w1.heap[k]? = some (.cells cs T fr) := by
    intro k cs T fr hT hk
    have hkl := (Array.getElem?_eq_some_iff.1 hk).1
    rw [hg.block k (by simp; omega) (fun e => ?_)]
    · exact (Below.heap_alloc _ _ _ hkl).trans hk
    · obtain ⟨cur, hc⟩ := hrb k e.symm
      rw [hk] at hc
      simp at hc
      exact hT hc.2.1
  have hh1 := hk1 h _ _ _ (by decide) hv
  have hk2 : ∀ (k : Nat) (cs : Array Value) (T : TypeId) (fr : Nat × Nat), T ≠ 115 → T ≠ 112 → w.heap[k]? = some (.cells cs T fr) → (w1.setCell ⟨h, 0, none⟩ (.slice (some ⟨g', 0, none⟩) (P.length + 1) cap')).heap[k]? = some (.cells cs T fr) := by
    intro k cs T fr h1 h2 hk
    rw [Below.heap_setCell _ _ _ _ (typ_ne hk hv h2)]
    exact hk1 k cs T fr h1 hk
  have hpt : ∀ q, PtOk w lo w.heap.size q → PtOk (w1.setCell ⟨h, 0, none⟩ (.slice (some ⟨g', 0, none⟩) (P.length + 1) cap')) lo w1.heap.size q := by
    intro q hq
    obtain ⟨cur, hc1, hc2⟩ := hq.ce
    exact ⟨hq.g1, by have := hq.g2; omega, hq.n1, hq.n2, hq.n3, ⟨cur, hk2 _ _ _ _ (by decide) (by decide) hc1, hc2⟩, fun x hx => own_kp (hq.ky x hx) (fun k cs fr q => hk2 k cs _ fr (by decide) (by decide) q)⟩
  have hgl := World.ownsRow.lt ho g' rfl
  refine ⟨⟨H.h1, by have := H.h2; omega, ⟨.slice (some ⟨g', 0, none⟩) (P.length + 1) cap', ?_, ?_, fun k hk => ?_⟩, fun q hq => ?_, ?_, by simp; omega⟩, ?_, by simp [World.setCell]⟩
  · have := heap_setCell_same w1 h 0 _ _ (.slice (some ⟨g', 0, none⟩) (P.length + 1) cap') hh1
    simpa using this
  · rw [List.length_append, List.flatMap_append]
    obtain ⟨cur, hcur⟩ := row_block ho
    exact row_heap ho (Below.heap_setCell _ _ _ _ (typ_ne hcur hh1 (by decide)))
  · simp [Value.ownBlock] at hk
    omega
  · rcases List.mem_append.1 hq with hq | hq
    · exact hpt q (H.pt q hq)
    · obtain rfl : q = p := by simpa using hq
      exact hpt q hp
  · rw [List.map_append, List.nodup_append]
    refine ⟨H.nd, by simp, fun x hx y hy e => ?_⟩
    obtain ⟨q, hq, rfl⟩ := List.mem_map.1 hx
    obtain rfl : y = p.g := by simpa using hy
    exact hnew q hq e
  · refine Below.trans ?_ ((Below.refl _ _).setCell H.h1 _)
    have hlo : lo ≤ w.heap.size := by have := H.h1; have := H.h2; omega
    refine ((Below.refl lo w).alloc hlo tmp).grown hg (by simp; omega) (fun k hk => (World.ownsRow.lt hrow k hk).1)
theorem wp_app_run {w w' : World} {o : Oper} {a : Act} {K : Act → World → Prop} {Q : Exit → Act → World → Prop} (s x : Operand) (t ty : TypeId) (ho : o.op = .call { callee := .builtin .append, args := #[s, x], argTypes := #[t, t] }) (hty : o.type = ty) (v vx v' : Value) (hs : a.eval s = v) (hx : a.eval x = vx)
    (hrun : (Builtin.append_ #[t, t] ty #[v, vx]).run Tryz.prog w = .ok v' w') (h : K (a.put o.dst v') w') : o.wp Tryz.prog a w K Q := by
  subst hty
  unfold Oper.wp
  simp [execOp, ho, resolve, invoke, builtin, hs, hx, hrun, Result.andThen]
  exact h
theorem wpList_app_run {w w' : World} {ops : Array Oper} {rest : List Oper} {o : Oper} {a : Act} {Q : Exit → Act → World → Prop} (hgd : o.guard = none) (s x : Operand) (t ty : TypeId) (ho : o.op = .call { callee := .builtin .append, args := #[s, x], argTypes := #[t, t] }) (hty : o.type = ty) (v vx v' : Value) (hs : a.eval s = v) (hx : a.eval x = vx)
    (hrun : (Builtin.append_ #[t, t] ty #[v, vx]).run Tryz.prog w = .ok v' w') (h : wpList Tryz.prog ops Q rest (a.put o.dst v') w') : wpList Tryz.prog ops Q (o :: rest) a w :=
  wpList_plain hgd fun _ hK => wp_app_run s x t ty ho hty v vx v' hs hx hrun (hK _ _ h)
def NwPost (rs : List (List En)) (w : World) (e : Ending) (w' : World) : Prop :=
  Below w.heap.size w w' ∧ ((rowsF rs ≠ 0 ∧ e = .returned (.tuple #[.pointer none, .int .i64 (rowsF rs)])) ∨ (rowsF rs = 0 ∧ ∃ h hh, e = .returned (.tuple #[.pointer (some ⟨h, 0, none⟩), .int .i64 0]) ∧ HS w' w.heap.size hh h (seqF rs)))
/-- What the second loop of New keeps. -/
structure NwI (rs : List (List En)) (w : World) (h k : Nat) (P : List Pt) (wr : World) : Prop where
  p : P.map paP = partsF 0 (rs.take k)
  m : HM wr w.heap.size wr.heap.size h P
  b : Below w.heap.size w wr
theorem parts_len : ∀ (rs : List (List En)) (i : Nat), (partsF i rs).length ≤ rs.length
  | [], _ => Nat.le_refl _
  | r :: rs, i => by
    have := parts_len rs (i + 1)
    unfold partsF
    split
    · simp; omega
    · simp; omega
theorem rowsF_bad : ∀ {rs : List (List En)} {k : Nat} (hk : k < rs.length), (∀ j (hj : j < k), rowF (rs[j]'(by omega)) = 0) → rowF rs[k] ≠ 0 → rowsF rs = rowF rs[k]
  | r :: rs, 0, _, _, h => by
    have h' : rowF r ≠ 0 := h
    unfold rowsF; rw [if_neg h']; rfl
  | r :: rs, k + 1, hk, hj, h => by
    have h0 : rowF r = 0 := hj 0 (by omega)
    unfold rowsF
    rw [if_pos h0]
    exact rowsF_bad (rs := rs) (k := k) (by simpa using hk) (fun j hj2 => by have := hj (j + 1) (by omega); simpa using this) (by simpa using h)
theorem rReads_at {w : World} {rs : List (List En)} {b off n cap : Nat} (h : RReads w (.slice (some ⟨b, off, none⟩) n cap) rs) {k : Nat} (hk : k < rs.length) : ∃ ev, w.cell? ⟨b, off + k, none⟩ = some ev ∧ EReads w ev rs[k] := by
  obtain ⟨a, cap', hv, h1, h2, h3⟩ := h
  rcases h3 with rfl | ⟨b', off', h4, h5, h6⟩
  · simp at hk
  · simp at hv
    rw [h4] at hv
    simp at hv
    obtain ⟨⟨rfl, rfl⟩, _⟩ := hv
    exact h6 k hk
theorem rReads_some {w : World} {v : Value} {rs : List (List En)} (h : RReads w v rs) (h0 : 0 < rs.length) : ∃ b off cap, v = .slice (some ⟨b, off, none⟩) rs.length cap ∧ rs.length ≤ cap ∧ cap ≤ maxLen ∧ b < w.heap.size := by
  obtain ⟨a, cap, rfl, h1, h2, h3⟩ := h
  rcases h3 with rfl | ⟨b, off, rfl, h5, h6⟩
  · simp at h0
  · exact ⟨b, off, cap, rfl, h1, h2, h5⟩
set_option maxRecDepth 100000 in
set_option maxHeartbeats 4000000 in
theorem new_some (b off cap : Nat) (rs : List (List En)) (w : World) (hR : RReads w (.slice (some ⟨b, off, none⟩) rs.length cap) rs) (hl1 : rs.length ≤ 10000) (hl2 : ∀ r ∈ rs, r.length ≤ 100000) (hl3 : ∀ r ∈ rs, ∀ x ∈ r, x.1.length ≤ 100000) :
    Calls Tryz.prog 23 #[.slice (some ⟨b, off, none⟩) rs.length cap] w (NwPost rs w) := by
  have HR : Hid (RReads w (.slice (some ⟨b, off, none⟩) rs.length cap) rs) := hR
  have HL2 : Hid _ := hl2
  have HL3 : Hid _ := hl3
  clear hR hl2 hl3
  go_enter Tryz.func23, Tryz.ntmps23
  go_wp2_with fail
  go_loopw [13] (fun i wr => ∃ k : Nat, ∃ hk : k ≤ rs.length, i = .int .i64 (k : Int) ∧ Hid (∀ j (hj : j < k), rowF (rs[j]'(by omega)) = 0) ∧ Hid (Below w.heap.size w wr)) (fun i _ => rs.length - (intOf i).toNat)
  case atStart => exact ⟨0, by omega, rfl, fun j hj => by omega, Below.refl _ _⟩
  case round =>
    obtain ⟨k, hk, rfl, HJ, HB⟩ := hrel
    by_cases hlt : k < rs.length
    · obtain ⟨ev, hcv, hev⟩ := rReads_at (HR.out.below HB.out) hlt
      obtain ⟨ea, ec, hef, _⟩ := hev.form
      subst hef
      have HEV : Hid (EReads wr (.slice ea rs[k].length ec) rs[k]) := hev
      have HBAD : Hid (rowF rs[k] ≠ 0 → rowsF rs = rowF rs[k]) := rowsF_bad hlt HJ.out
      have HNJ : Hid (rowF rs[k] = 0 → ∀ j (hj : j < k + 1), rowF (rs[j]'(by omega)) = 0) := fun h0 j hj => by
        rcases Nat.lt_or_ge j k with h1 | h1
        · exact HJ.out j h1
        · obtain rfl : j = k := by omega
          exact h0
      clear hev
      obtain ⟨r, Hr⟩ := hid_ex rs[k]
      rw [← Hr.out] at HEV hcv HBAD HNJ
      go_wp2_with fail
      refine (isRow_any _ r _ HEV.out).mono ?_
      rintro e w1 ⟨rfl, hb1⟩
      have HB1 : Hid (Below w.heap.size w w1) := HB.out.trans (hb1.mono HB.out.size)
      clear hb1 hcv HEV
      by_cases h0 : rowF r = 0
      · have hb0 : (rowF r == 0) = true := by simp [h0]
        have HN := HNJ.out h0
        have HN' : Hid _ := HN
        clear HN h0 HBAD HNJ
        generalize rowF r = rr at *
        go_wp2_with fail
        go_roundw
        case rel => exact ⟨k + 1, by omega, by go_num, HN'.out, HB1⟩
        case measure => simp [intOf]; omega
      · have hb0 : (rowF r == 0) = false := by simp [h0]
        have HZ : Hid (rowsF rs = rowF r) := HBAD.out h0
        have H0 : Hid (rowF r ≠ 0) := h0
        clear h0 HBAD HNJ
        generalize rowF r = rr at *
        go_wp2_with fail
        go_ret2
        exact ⟨HB1.out, .inl ⟨by rw [HZ.out]; exact H0.out, by rw [HZ.out]; rfl⟩⟩
    · have HZ : Hid (rowsF rs = 0) := rowsF_ok.2 (fun r hr => by
        obtain ⟨j, hj, rfl⟩ := List.getElem_of_mem hr
        exact HJ.out j (by omega))
      have HI0 : Hid (NwI rs w wr.heap.size 0 [] (wr.alloc (.cells #[.slice none 0 0] 112))) := by
        refine ⟨rfl, ⟨HB.out.size, by simp, ⟨.slice none 0 0, heap_alloc_new _ _, World.ownsRow_nil _ _ _ _, fun k hk => by simp [Value.ownBlock] at hk⟩, fun p hp => (by cases hp), List.nodup_nil, by simp⟩, HB.out.alloc HB.out.size _⟩
      go_wp2_with fail
      clear HJ
      obtain ⟨hN, HhN⟩ := hid_ex wr.heap.size
      obtain ⟨wz, Hwz⟩ := hid_ex (wr.alloc (.cells #[.slice none 0 0] 112))
      rw [← HhN.out] at HI0 ⊢
      rw [← Hwz.out] at HI0 ⊢
      clear HhN Hwz HB hk hlt
      go_loopw [27] (fun i wq => ∃ (k : Nat) (P : List Pt), k ≤ rs.length ∧ i = .int .i64 (k : Int) ∧ Hid (NwI rs w hN k P wq)) (fun i _ => rs.length - (intOf i).toNat)
      case atStart => exact ⟨0, [], by omega, rfl, HI0⟩
      case round =>
        clear HI0
        obtain ⟨k, P, hk, rfl, HI⟩ := hrel
        by_cases hlt : k < rs.length
        · obtain ⟨ev, hcv, hev⟩ := rReads_at (HR.out.below HI.out.b) hlt
          obtain ⟨ea, ec, hef, _⟩ := hev.form
          subst hef
          have hrl := HL2.out rs[k] (List.getElem_mem hlt)
          have HRK : Hid _ := HL3.out rs[k] (List.getElem_mem hlt)
          have HEV : Hid (EReads wr (.slice ea rs[k].length ec) rs[k]) := hev
          have HSN : Hid (partsF 0 (rs.take (k + 1)) = partsF 0 (rs.take k) ++ (if rs[k] = [] then [] else [(rs[k], k)])) := partsF_snoc hlt
          clear hev
          obtain ⟨r, Hr⟩ := hid_ex rs[k]
          rw [← Hr.out] at HEV hcv HSN hrl HRK
          rcases Nat.eq_zero_or_pos r.length with h0 | h0
          · have HN : Hid (NwI rs w hN (k + 1) P wr) := ⟨by rw [HSN.out, if_pos (List.length_eq_zero_iff.1 h0), List.append_nil]; exact HI.out.p, HI.out.m, HI.out.b⟩
            go_wp2_with fail
            go_roundw
            case rel => exact ⟨k + 1, P, by omega, by go_num, HN⟩
            case measure => simp [intOf]; omega
          · obtain ⟨eb, eo, ec', hef, _⟩ := eReads_some HEV.out h0
            simp at hef
            obtain ⟨rfl, rfl⟩ := hef
            have hlenP : P.length < 100000 := by
              have h1 := congrArg List.length HI.out.p
              have h2 := parts_len (rs.take k) 0
              simp at h1 h2
              omega
            obtain ⟨a, cap0, e1, e2, e3, e4, e5⟩ := HI.out.m.arr
            have x1 := (cell_row e1 0 (by simp)).1
            simp only [List.getElem_toArray, List.getElem_cons_zero] at x1
            have hbh := (Array.getElem?_eq_some_iff.1 e1).1
            have E1 : Hid _ := e1
            have E2 : Hid _ := e2
            clear e1 e2 e5
            go_wp2_with fail
            refine wp_region_noPanic ?_
            refine wp_region_S 13 (fun _ => True) (fun w' => w'.cell? ⟨hN, 0, none⟩ = some (.slice a P.length cap0)) (by kernel_rfl) ?_ ?_ (fun hHeld => ?_)
            · trivial
            · exact x1
            refine wpAnyS_take (i := 0) (v := .pointer (some ⟨hN, 0, none⟩)) _ rfl (by kernel_rfl) (by kernel_rfl) (by kernel_rfl) (by kernel_rfl) (by kernel_rfl) rfl (fun _ _ _ h => h) (Or.inl ⟨by rfl, ?_⟩) hHeld (fun hHeld => ?_)
            · (intro w1 hSw; have hSw := hSw.1; (try dsimp only at hSw); go_simp)
            simp only [List.getElem_toArray, List.getElem_cons_zero, Act.put, List.setIfInBounds_toArray, List.set_cons_zero, List.set_cons_succ]
            refine wpAnyS_take (i := 1) (v := .pointer (some ⟨hN, 0, none⟩)) _ rfl (by kernel_rfl) (by kernel_rfl) (by kernel_rfl) (by kernel_rfl) (by kernel_rfl) rfl (fun _ _ _ h => h) (Or.inl ⟨by rfl, ?_⟩) hHeld (fun hHeld => ?_)
            · (intro w1 hSw; have hSw := hSw.1; (try dsimp only at hSw); go_simp)
            simp only [List.getElem_toArray, List.getElem_cons_succ, List.getElem_cons_zero, Act.put, List.setIfInBounds_toArray, List.set_cons_zero, List.set_cons_succ]
            refine wpAnyS_take (i := 2) (v := .pointer (some ⟨hN, 0, none⟩)) _ rfl (by kernel_rfl) (by kernel_rfl) (by kernel_rfl) (by kernel_rfl) (by kernel_rfl) rfl (fun _ _ _ h => h) (Or.inl ⟨by rfl, ?_⟩) hHeld (fun hHeld => ?_)
            · (intro w1 hSw; have hSw := hSw.1; (try dsimp only at hSw); go_simp)
            simp only [List.getElem_toArray, List.getElem_cons_succ, List.getElem_cons_zero, Act.put, List.setIfInBounds_toArray, List.set_cons_zero, List.set_cons_succ]
            refine wpAnyS_take (i := 3) (v := .pointer (some ⟨hN, 0, none⟩)) _ rfl (by kernel_rfl) (by kernel_rfl) (by kernel_rfl) (by kernel_rfl) (by kernel_rfl) rfl (fun _ _ _ h => h) (Or.inl ⟨by rfl, ?_⟩) hHeld (fun hHeld => ?_)
            · (intro w1 hSw; have hSw := hSw.1; (try dsimp only at hSw); go_simp)
            simp only [List.getElem_toArray, List.getElem_cons_succ, List.getElem_cons_zero, Act.put, List.setIfInBounds_toArray, List.set_cons_zero, List.set_cons_succ]
            refine wpAnyS_take (i := 4) (v := .slice a P.length cap0) true rfl (by kernel_rfl) (by kernel_rfl) (by kernel_rfl) (by kernel_rfl) (by kernel_rfl) (by kernel_rfl) (fun _ _ _ h => h) (Or.inl ⟨by rfl, ?_⟩) hHeld (fun hHeld => ?_)
            · (intro w1 hSw; have hSw2 := hSw.2 rfl; have hSw := hSw.1; (try dsimp only at hSw hSw2); go_simp)
            simp only [List.getElem_toArray, List.getElem_cons_succ, List.getElem_cons_zero, Act.put, List.setIfInBounds_toArray, List.set_cons_zero, List.set_cons_succ]
            refine wpAnyS_take (i := 5) (v := .slice (some ⟨eb, eo, none⟩) r.length ec) _ rfl (by kernel_rfl) (by kernel_rfl) (by kernel_rfl) (by kernel_rfl) (by kernel_rfl) rfl (fun _ _ _ h => h) (Or.inl ⟨by rfl, ?_⟩) hHeld (fun hHeld => ?_)
            · (intro w1 hSw; have hSw := hSw.1; (try dsimp only at hSw); go_simp)
            simp only [List.getElem_toArray, List.getElem_cons_succ, List.getElem_cons_zero, Act.put, List.setIfInBounds_toArray, List.set_cons_zero, List.set_cons_succ]
            refine wpAnyS_take (i := 7) (v := .int .i64 (k : Int)) _ rfl (by kernel_rfl) (by kernel_rfl) (by kernel_rfl) (by kernel_rfl) (by kernel_rfl) rfl (fun _ _ _ h => h) (Or.inl ⟨by rfl, ?_⟩) hHeld (fun hHeld => ?_)
            · (intro w1 hSw; have hSw := hSw.1; (try dsimp only at hSw); go_simp)
            simp only [List.getElem_toArray, List.getElem_cons_succ, List.getElem_cons_zero, Act.put, List.setIfInBounds_toArray, List.set_cons_zero, List.set_cons_succ]
            refine wpAnyS_ready (i := 6) (by kernel_rfl) rfl (fun K hK => ?_)
            go_simp
            refine (copied_some eb eo ec r _ (HEV.out.below (Below.refl _ _).drew) hrl HRK.out).mono ?_
            rintro e w3 ⟨g, xs, rfl, ho3, hm3, hb3⟩
            go_simp
            have hb3' : Below wr.heap.size wr w3 := (Below.refl wr.heap.size wr).drew.trans hb3
            refine hK.out _ _ ⟨?_, fun _ => ?_⟩ (fun hHeld => ?_)
            · trivial
            · exact (hb3'.cell (p := ⟨hN, 0, none⟩) hbh).trans x1
            clear hK K
            refine wpAnyS_take (i := 8) (v := .agg #[.slice (some ⟨g, 0, none⟩) r.length r.length, .int .i64 (k : Int)]) _ rfl (by kernel_rfl) (by kernel_rfl) (by kernel_rfl) (by kernel_rfl) (by kernel_rfl) rfl (fun _ _ _ h => h) (Or.inl ⟨by rfl, ?_⟩) hHeld (fun hHeld => ?_)
            · (intro w1 hSw; have hSw := hSw.1; (try dsimp only at hSw); go_simp)
            simp only [List.getElem_toArray, List.getElem_cons_succ, List.getElem_cons_zero, Act.put, List.setIfInBounds_toArray, List.set_cons_zero, List.set_cons_succ]
            refine wpAnyS_ready (i := 9) (by kernel_rfl) rfl (fun K hK => ?_)
            go_simp
            have hxl : xs.length = r.length := by have := congrArg List.length hm3; simpa using this
            have HM3 : Hid (HM w3 w.heap.size w3.heap.size hN P) := (HI.out.m.below hb3').mono hb3'.size
            have hrow3 := row_kp E2.out (Kp.of_below hb3')
            have hv3 : w3.heap[hN]? = some (.cells #[.slice a P.length cap0] 112) := (hb3'.block _ hbh).trans E1.out
            have hlo3 : w.heap.size ≤ w3.heap.size := Nat.le_trans HI.out.b.size hb3'.size
            obtain ⟨i0, hi, hz0, hz1, hz2⟩ := info_parts infoPt
            obtain ⟨v5, w5, hr5, hown5, hg5, _⟩ := run_append_own (P := Tryz.prog) (w3.alloc (.cells #[.slice (some ⟨g, 0, none⟩) r.length r.length, .int .i64 (k : Int)] 115)) w.heap.size 110 110 115 i0 (.agg #[.slice none 0 0, .int .i64 0]) 2 32 Tryz.underlying110 hi hz0 hz1 hz2 rfl (by decide) (.slice a P.length cap0) P.length (P.flatMap p2) (World.ownsRow.alloc hrow3 _) ⟨w3.heap.size, 0, none⟩ 1 1 [.slice (some ⟨g, 0, none⟩) r.length r.length, .int .i64 (k : Int)] rfl news2 (by intro u hu; simp at hu; rcases hu with rfl | rfl <;> rfl) (by unfold maxLen; omega) (by omega) (by simp; omega)
            obtain ⟨g5, cap5, hv5⟩ := Go.Joins.ownsRow_form hown5 (by omega)
            subst hv5
            have HADD : Hid _ := HM.add (p := ⟨g, 0, r.length, xs, k⟩) HM3.out hv3 hrow3 (ptOk_of ho3 HI.out.b.size hxl h0 (World.ownsRow.lt ho3.1 g rfl).2) (fun q hq e => by
              have h1 := (HI.out.m.pt q hq).g2
              have h2 := (World.ownsRow.lt ho3.1 g rfl).1
              have h3 : wr.drew.heap.size = wr.heap.size := rfl
              simp only at e
              omega) hlenP (by unfold lv; rw [hxl]; exact hown5) hg5
            have hh5 : w5.heap[hN]? = some (.cells #[.slice a P.length cap0] 112) := by
              rw [hg5.block hN (by simp; have := (Array.getElem?_eq_some_iff.1 hv3).1; omega) (fun e => ?_)]
              · exact (Below.heap_alloc _ _ _ (Array.getElem?_eq_some_iff.1 hv3).1).trans hv3
              · rcases hrow3.2 with ⟨q, _⟩ | ⟨g0, c0, cur, q, _, hw, _⟩
                · simp at q; rw [q.1] at e; simp [Value.ownBlock] at e
                · simp at q
                  rw [q.1] at e
                  simp [Value.ownBlock] at e
                  subst e
                  rw [hv3] at hw
                  simp at hw
            have x5 := (cell_row hh5 0 (by simp)).1
            have f5 := (cell_row hh5 0 (by simp)).2
            simp only [List.getElem_toArray, List.getElem_cons_zero] at x5
            have x4 : (w3.alloc (.cells #[.slice (some ⟨g, 0, none⟩) r.length r.length, .int .i64 (k : Int)] 115)).cell? ⟨hN, 0, none⟩ = some (.slice a P.length cap0) := (World.cell?_of_block (Below.heap_alloc _ _ _ (Array.getElem?_eq_some_iff.1 hv3).1)).trans ((hb3'.cell (p := ⟨hN, 0, none⟩) hbh).trans x1)
            have HNX : Hid (NwI rs w hN (k + 1) (P ++ [⟨g, 0, r.length, xs, k⟩]) (w5.setCell ⟨hN, 0, none⟩ (.slice (some ⟨g5, 0, none⟩) (P.length + 1) cap5))) := by
              obtain ⟨q1, q2, q3⟩ := HADD.out
              refine ⟨?_, by rw [q3]; exact q1, (HI.out.b.trans (hb3'.mono HI.out.b.size)).trans q2⟩
              rw [HSN.out, if_neg (fun e => by rw [e] at h0; simp at h0), List.map_append, HI.out.p]
              show _ ++ [(xs.map evE, k)] = _
              rw [hm3]
            clear HADD HM3 hrow3 hv3 hown5 hg5 hh5 hi hz0 hz1 hz2 ho3 hm3 hb3 hb3'
            refine hK.out _ _ ⟨?_, fun _ => ?_⟩ (fun hHeld => ?_)
            · trivial
            · exact x4
            clear hK K
            refine wpAnyS_ready (i := 10) (by kernel_rfl) rfl (fun K hK => ?_)
            rw [if_pos (by rfl)]
            refine wp_app_run _ _ _ _ rfl rfl _ _ _ rfl rfl hr5 ?_
            refine hK.out _ _ ⟨?_, fun _ => ?_⟩ (fun hHeld => ?_)
            · trivial
            · exact x5
            clear hK K
            simp only [List.getElem_toArray, List.getElem_cons_succ, List.getElem_cons_zero, Act.put, List.setIfInBounds_toArray, List.set_cons_zero, List.set_cons_succ]
            refine wpAnyS_take (i := 11) (v := .pointer (some ⟨hN, 0, none⟩)) _ rfl (by kernel_rfl) (by kernel_rfl) (by kernel_rfl) (by kernel_rfl) (by kernel_rfl) rfl (fun _ _ _ h => h) (Or.inl ⟨by rfl, ?_⟩) hHeld (fun hHeld => ?_)
            · (intro w1 hSw; have hSw := hSw.1; (try dsimp only at hSw); go_simp)
            simp only [List.getElem_toArray, List.getElem_cons_succ, List.getElem_cons_zero, Act.put, List.setIfInBounds_toArray, List.set_cons_zero, List.set_cons_succ]
            refine wpAnyS_take (i := 12) (v := .pointer (some ⟨hN, 0, none⟩)) _ rfl (by kernel_rfl) (by kernel_rfl) (by kernel_rfl) (by kernel_rfl) (by kernel_rfl) rfl (fun _ _ _ h => h) (Or.inl ⟨by rfl, ?_⟩) hHeld (fun hHeld => ?_)
            · (intro w1 hSw; have hSw := hSw.1; (try dsimp only at hSw); go_simp)
            simp only [List.getElem_toArray, List.getElem_cons_succ, List.getElem_cons_zero, Act.put, List.setIfInBounds_toArray, List.set_cons_zero, List.set_cons_succ]
            refine wpAnyS_ready (i := 13) (by kernel_rfl) rfl (fun K hK => ?_)
            go_simp
            refine hK.out _ _ ⟨?_, fun hno => absurd hno (by decide)⟩ (fun hHeld => ?_)
            · trivial
            clear hK K
            refine wpAnyS_done (by kernel_rfl) ?_ _
            refine NoPanic.normal ?_
            go_wp2_with fail
            go_roundw
            case rel => exact ⟨k + 1, _, by omega, by go_num, HNX⟩
            case measure => simp [intOf]; omega
        · have HP : Hid (P.map paP = partsF 0 rs) := by
            have h1 := HI.out.p
            rw [List.take_of_length_le (by omega)] at h1
            exact h1
          have hPl := HI.out.m.le
          have HM0 : Hid (HM wr w.heap.size wr.heap.size hN P) := HI.out.m
          have HB0 : Hid (Below w.heap.size w wr) := HI.out.b
          obtain ⟨a, cap0, e1, _⟩ := HI.out.m.arr
          have x1 := (cell_row e1 0 (by simp)).1
          simp only [List.getElem_toArray, List.getElem_cons_zero] at x1
          obtain ⟨hs, Hhs⟩ := hid_ex wr.heap.size
          rw [← Hhs.out] at HM0
          have HZ0 : Hid (hs ≤ wr.heap.size) := by unfold Hid; rw [Hhs.out]; omega
          have HQ0 : Hid (HQ lePt ptZ P (P.length / 2)) := fun i h1 h2 h3 => by omega
          have hdv : ((P.length : Int) / 2) = ((P.length / 2 : Nat) : Int) := by omega
          obtain ⟨m, Hm⟩ := hid_ex (P.length / 2)
          rw [← Hm.out] at HQ0 hdv
          have hm5 : m ≤ 50000 := by rw [Hm.out]; omega
          clear e1 HI Hhs
          go_wp2_with fail
          clear hlt hk x1 hdv
          go_loopw [10] (fun i wq => ∃ (s : Nat) (P' : List Pt), s ≤ 50000 ∧ i = .int .i64 ((s : Int) - 1) ∧ Hid (HM wq w.heap.size hs hN P') ∧ Hid (P'.Perm P) ∧ Hid (HQ lePt ptZ P' s) ∧ Hid (hs ≤ wq.heap.size) ∧ Hid (Below w.heap.size w wq)) (fun i _ => (intOf i + 1).toNat)
          case atStart => exact ⟨m, P, hm5, rfl, HM0, List.Perm.refl _, HQ0, HZ0, HB0⟩
          case round =>
            clear HM0 HQ0 HZ0 HB0
            obtain ⟨s, P', hs5, rfl, HM1, HP1, HQ1, HZ1, HB1⟩ := hrel
            rcases Nat.eq_zero_or_pos s with h0 | h0
            · subst h0
              have HEnd : Hid (NwPost rs w (.returned (.tuple #[.pointer (some ⟨hN, 0, none⟩), .int .i64 0])) wr) := by
                refine ⟨HB1.out, .inr ⟨HZ.out, hN, hs, rfl, ⟨P', HM1.out, HQ1.out, ?_, ?_⟩, seqF_pw HZ.out, HZ1.out⟩⟩
                · have h1 := good_parts HZ.out 0
                  rw [← HP.out] at h1
                  exact h1.perm (HP1.out.map paP)
                · have h1 : (seqF rs).Perm (tagsF 0 rs) := srtG_perm _
                  rw [← tags_parts, ← HP.out] at h1
                  exact h1.trans (tags_perm (HP1.out.map paP)).symm
              go_wp2_with fail
              go_ret2
              exact HEnd.out
            · obtain ⟨j, rfl⟩ : ∃ j, s = j + 1 := ⟨s - 1, by omega⟩
              have ej : ((j + 1 : Nat) : Int) - 1 = (j : Int) := by omega
              rw [ej]
              clear ej h0
              go_wp2_with fail
              refine (sink_any w.heap.size hs hN P' j (by omega) _ HM1.out HZ1.out HQ1.out).mono ?_
              rintro e w6 ⟨⟨v6, rfl⟩, P2, hm6, hp6, hq6, hf6⟩
              have HM6 : Hid _ := hm6
              have HP6 : Hid _ := hp6.trans HP1.out
              have HQ6 : Hid _ := hq6
              have HZ6 : Hid _ := Nat.le_trans HZ1.out hf6.b.size
              have HB6 : Hid _ := HB1.out.trans hf6.b
              clear hm6 hp6 hq6 hf6 HM1 HP1 HQ1 HZ1 HB1
              go_wp2_with fail
              go_roundw
              case rel => exact ⟨j, P2, by omega, by go_num, HM6.out, HP6.out, HQ6.out, HZ6.out, HB6.out⟩
              case measure => simp [intOf]
set_option maxRecDepth 100000 in
set_option maxHeartbeats 2000000 in
theorem new_none (a : Option Addr) (cap : Nat) (w : World) : Calls Tryz.prog 23 #[.slice a 0 cap] w (NwPost [] w) := by
  have HEnd : Hid (∀ W, W = w.alloc (.cells #[.slice none 0 0] 112) → NwPost [] w (.returned (.tuple #[.pointer (some ⟨w.heap.size, 0, none⟩), .int .i64 0])) W) := by
    rintro W rfl
    refine ⟨(Below.refl _ _).alloc (Nat.le_refl _) _, .inr ⟨rfl, w.heap.size, w.heap.size + 1, rfl, ⟨[], ⟨Nat.le_refl _, by omega, ⟨.slice none 0 0, heap_alloc_new _ _, World.ownsRow_nil _ _ _ _, fun k hk => by simp [Value.ownBlock] at hk⟩, fun p hp => (by cases hp), List.nodup_nil, by simp⟩, fun i hi => (by simp at hi), ⟨fun p hp => (by cases hp), fun p hp => (by cases hp), List.nodup_nil⟩, ?_⟩, ?_, by simp⟩⟩
    · exact srtG_perm _
    · exact seqF_pw rfl
  go_enter Tryz.func23, Tryz.ntmps23
  go_wp2_with fail
  go_loopw [13] (fun i wr => i = .int .i64 0 ∧ Hid (wr = w)) (fun _ _ => 0)
  case atStart => exact ⟨rfl, rfl⟩
  case round =>
    obtain ⟨rfl, HW⟩ := hrel
    obtain rfl := HW.out
    clear HW
    go_wp2_with fail
    obtain ⟨hN, HhN⟩ := hid_ex wr.heap.size
    obtain ⟨wz, Hwz⟩ := hid_ex (wr.alloc (.cells #[.slice none 0 0] 112))
    have HCZ : Hid (wz.cell? ⟨hN, 0, none⟩ = some (.slice none 0 0)) := by rw [Hwz.out, HhN.out]; exact (cell_row (heap_alloc_new _ _) 0 (by simp)).1
    have HE2 : Hid (NwPost [] wr (.returned (.tuple #[.pointer (some ⟨hN, 0, none⟩), .int .i64 0])) wz) := by rw [HhN.out]; exact HEnd.out wz Hwz.out
    rw [← HhN.out]
    rw [← Hwz.out]
    clear HhN Hwz HEnd
    go_loopw [27] (fun i wq => i = .int .i64 0 ∧ Hid (wq = wz)) (fun _ _ => 0)
    case atStart => exact ⟨rfl, rfl⟩
    case round =>
      obtain ⟨rfl, HW⟩ := hrel
      obtain rfl := HW.out
      clear HW
      have hcz := HCZ.out
      go_wp2_with fail
      go_loopw [10] (fun i wq => i = .int .i64 (-1) ∧ Hid (wq = wr)) (fun _ _ => 0)
      case atStart => exact ⟨rfl, rfl⟩
      case round =>
        obtain ⟨rfl, HW⟩ := hrel
        obtain rfl := HW.out
        clear HW
        go_wp2_with fail
        go_ret2
        exact HE2.out
theorem new_any (v : Value) (rs : List (List En)) (w : World) (hR : RReads w v rs) (hl1 : rs.length ≤ 10000) (hl2 : ∀ r ∈ rs, r.length ≤ 100000) (hl3 : ∀ r ∈ rs, ∀ x ∈ r, x.1.length ≤ 100000) : Calls Tryz.prog 23 #[v] w (NwPost rs w) := by
  rcases Nat.eq_zero_or_pos rs.length with h0 | h0
  · obtain ⟨a, cap, rfl, _⟩ := hR
    obtain rfl : rs = [] := List.length_eq_zero_iff.1 h0
    exact new_none a cap w
  · obtain ⟨b, off, cap, rfl, _⟩ := rReads_some hR h0
    exact new_some b off cap rs w hR hl1 hl2 hl3
end Go.Proofs.YthicmbjiblbcmaaGreat

/- All rows together: what the loop of All keeps. -/
namespace Go.Proofs.YthicmbjiblbcmaaGreat
open Go.RowKit

theorem addG_same {E : List En} {t : Tg} (h : 0 < E.length) (hk : (E[E.length - 1]'(by omega)).1 = t.1.1) : addG E t = E.set (E.length - 1) (t.1.1, mrg (E[E.length - 1]'(by omega)).2 t.2) := by
  rcases List.eq_nil_or_concat E with rfl | ⟨L, b, rfl⟩
  · simp at h
  · simp only [List.concat_eq_append] at hk ⊢
    have e1 : (L ++ [b])[(L ++ [b]).length - 1]'(by simp) = b := by simp
    rw [e1] at hk ⊢
    unfold addG
    simp only [List.getLast?_append, List.getLast?_singleton, Option.some_or, List.dropLast_concat]
    rw [if_pos hk, hk, List.length_append]
    simp
theorem addG_new {E : List En} {t : Tg} (h : ∀ h0 : 0 < E.length, (E[E.length - 1]'(by omega)).1 ≠ t.1.1) : addG E t = E ++ [(t.1.1, t.2)] := by
  rcases List.eq_nil_or_concat E with rfl | ⟨L, b, rfl⟩
  · rfl
  · simp only [List.concat_eq_append] at h ⊢
    have e1 : (L ++ [b])[(L ++ [b]).length - 1]'(by simp) = b := by simp
    have h1 := h (by simp)
    rw [e1] at h1
    unfold addG
    simp only [List.getLast?_append, List.getLast?_singleton, Option.some_or]
    rw [if_neg h1]
theorem grpG_snoc (D : List Tg) (t : Tg) : grpG (D ++ [t]) = addG (grpG D) t := by unfold grpG; rw [List.foldl_append]; rfl
theorem addG_len (E : List En) (t : Tg) : (addG E t).length ≤ E.length + 1 := by
  by_cases h : ∃ h0 : 0 < E.length, (E[E.length - 1]'(by omega)).1 = t.1.1
  · obtain ⟨h0, h1⟩ := h
    rw [addG_same h0 h1, List.length_set]; omega
  · rw [addG_new (fun h0 h1 => h ⟨h0, h1⟩)]; simp
theorem grpG_len (D : List Tg) : (grpG D).length ≤ D.length := by
  have : ∀ (D : List Tg) (E : List En), (D.foldl addG E).length ≤ E.length + D.length := by
    intro D
    induction D with
    | nil => intro E; simp
    | cons t D ih => intro E; have h1 := ih (addG E t); have h2 := addG_len E t; simp only [List.foldl_cons, List.length_cons]; omega
  have := this D []
  simpa [grpG] using this
theorem mrg_cn {a b : Ag} (ha : CnOk a) (hb : CnOk b) : CnOk (mrg a b) := by
  unfold mrg
  split
  · exact hb
  · split
    · exact ha
    · have h1 := ha.1
      have h2 := hb.1
      unfold CnOk
      simp only [cntF]
      split <;> omega
theorem tags_cn : ∀ (rs : List (List En)) (i : Nat), (∀ r ∈ rs, ∀ x ∈ r, CnOk x.2) → ∀ t ∈ tagsF i rs, CnOk t.2
  | [], _, _, t, h => by simp [tagsF] at h
  | r :: rs, i, hr, t, h => by
    unfold tagsF at h
    rcases List.mem_append.1 h with h | h
    · unfold tagP at h
      obtain ⟨x, hx, rfl⟩ := List.mem_map.1 h
      exact hr r (List.mem_cons_self ..) x hx
    · exact tags_cn rs (i + 1) (fun r' hr' => hr r' (List.mem_cons_of_mem _ hr')) t h
theorem tags_len : ∀ (rs : List (List En)) (i : Nat), (∀ r ∈ rs, r.length ≤ 100000) → (tagsF i rs).length ≤ rs.length * 100000
  | [], _, _ => by simp [tagsF]
  | r :: rs, i, h => by
    have h1 := tags_len rs (i + 1) (fun r' hr' => h r' (List.mem_cons_of_mem _ hr'))
    have h2 := h r (List.mem_cons_self ..)
    unfold tagsF
    rw [List.length_append]
    unfold tagP
    simp
    omega
theorem seq_cn {rs : List (List En)} (h : ∀ r ∈ rs, ∀ x ∈ r, CnOk x.2) : ∀ t ∈ seqF rs, CnOk t.2 := fun t ht => tags_cn rs 0 h t ((srtG_perm _).mem_iff.1 ht)
theorem seq_len {rs : List (List En)} (h : ∀ r ∈ rs, r.length ≤ 100000) : (seqF rs).length ≤ rs.length * 100000 := by
  unfold seqF
  rw [(srtG_perm _).length_eq]; exact tags_len rs 0 h
/-- Six cells of what is known. -/
def a6 (a : Ag) : List Value := [.int .u64 a.c, .bool a.o, .int .i64 (hi a.s), .int .u64 (lo a.s), .int .i64 a.mn, .int .i64 a.mx]
theorem row_setA {w W : World} {base g n cap k : Nat} {cur : Array Value} {ys : List Ev} {a : Ag} (h : w.ownsRow base 56 7 (.slice (some ⟨g, 0, none⟩) n cap) n (ys.flatMap c7)) (hcur : w.heap[g]? = some (.cells cur 56))
    (hW : StW w W g (k * 7 + 1) cur 56 (a6 a)) (hk : k < ys.length) (hn : ys.length = n) : W.ownsRow base 56 7 (.slice (some ⟨g, 0, none⟩) n cap) n ((ys.set k ⟨ys[k].kv, ys[k].k, a⟩).flatMap c7) := by
  have hcell := h
  obtain ⟨h1, h2⟩ := h
  rcases h2 with ⟨h2, _⟩ | ⟨g', cap', cur0, hv, hg, hw, hc, hx, hs, ht⟩
  · simp at h2
  · have hv' := hv
    simp at hv'
    obtain ⟨rfl, rfl⟩ := hv'
    obtain rfl : cur0 = cur := by rw [hw] at hcur; simpa using hcur
    refine row_set7 (y := ⟨ys[k].kv, ys[k].k, a⟩) hcell hw ⟨hW.b, hW.o, ?_⟩ hn
    obtain ⟨cur', k1, k2, k3, k4⟩ := hW.c
    refine ⟨cur', k1, k2, fun j hj => k3 j ?_, fun i hi => ?_⟩
    · rw [c7_len] at hj
      show j < k * 7 + 1 ∨ k * 7 + 1 + 6 ≤ j
      omega
    · have hi7 : i < 7 := hi
      cases i with
      | zero =>
        rw [Nat.add_zero, k3 (k * 7) (.inl (by omega))]
        have h3 := flat7 ys k 0 hk (by decide)
        rw [← ht, List.getElem?_take, if_pos (by omega), Array.getElem?_toList] at h3
        rw [show k * 7 = 7 * k + 0 by omega, h3]; rfl
      | succ i =>
        have := k4 i (by show i < 6; omega)
        rw [show k * 7 + (i + 1) = k * 7 + 1 + i by omega, this]
        rfl
/-- The entries that All has so far. -/
structure AlE (lo hh : Nat) (v : Value) (xs : List Ev) (E : List En) (w : World) : Prop where
  r : w.ownsRow hh 56 7 v xs.length (xs.flatMap c7)
  k : ∀ x ∈ xs, Own w lo x.kv x.k
  m : xs.map evE = E
  c : ∀ x ∈ xs, CnOk x.a
theorem AlE.below {lo hh : Nat} {v : Value} {xs : List Ev} {E : List En} {A B : World} (h : AlE lo hh v xs E A) (hb : Below A.heap.size A B) : AlE lo hh v xs E B :=
  ⟨row_kp h.r (Kp.of_below hb), fun x hx => (h.k x hx).below hb, h.m, h.c⟩
theorem AlE.fr {lo hh : Nat} {v : Value} {xs : List Ev} {E : List En} {A B : World} (h : AlE lo hh v xs E A) (hf : Fr lo hh A B) : AlE lo hh v xs E B := by
  refine ⟨?_, fun x hx => hf.own (h.k x hx), h.m, h.c⟩
  have hlt := World.ownsRow.lt h.r
  obtain ⟨h1, h2⟩ := h.r
  refine ⟨h1, ?_⟩
  rcases h2 with h2 | ⟨g, cap, cur, hv, hg, hw, r⟩
  · exact .inl h2
  · exact .inr ⟨g, cap, cur, hv, hg, (hf.h g hg (hlt g (by rw [hv]; rfl)).2).trans hw, r⟩
end Go.Proofs.YthicmbjiblbcmaaGreat

/- What comes of rows, put together: a row. -/
namespace Go.Proofs.YthicmbjiblbcmaaGreat

theorem snoc_ind {α : Type} {p : List α → Prop} (h0 : p []) (h1 : ∀ l x, p l → p (l ++ [x])) : ∀ l, p l := by
  intro l
  have : ∀ r : List α, p r.reverse := by
    intro r
    induction r with
    | nil => exact h0
    | cons x r ih => rw [List.reverse_cons]; exact h1 _ _ ih
  have h := this l.reverse
  rwa [List.reverse_reverse] at h
end Go.Proofs.YthicmbjiblbcmaaGreat
