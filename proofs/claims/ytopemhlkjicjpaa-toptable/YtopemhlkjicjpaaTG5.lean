/- S6 S7 S8 S9, joined. -/
import Derived.Test.YtopemhlkjicjpaaTZ0
import Derived.Test.YtopemhlkjicjpaaTG4
import Derived.BigRegion
/- The contracts of mayPut and copied. -/
namespace Go.Proofs.Ytopemhlkjicjpaa
open Go.RowKit

theorem set7 {w : World} {b : Nat} {T : TypeId} {x0 x1 x2 x3 x4 x5 x6 : Value} (h : w.heap[b]? = some (.cells #[x0, x1, x2, x3, x4, x5, x6] T)) (v0 v1 v2 v3 v4 v5 v6 : Value) :
    (((((((w.setCell ⟨b, 0, none⟩ v0).setCell ⟨b, 1, none⟩ v1).setCell ⟨b, 2, none⟩ v2).setCell ⟨b, 3, none⟩ v3).setCell ⟨b, 4, none⟩ v4).setCell ⟨b, 5, none⟩ v5).setCell ⟨b, 6, none⟩ v6).heap[b]? = some (.cells #[v0, v1, v2, v3, v4, v5, v6] T) := by
  have h0 := Go.heap_setCell_same w b 0 _ _ v0 h
  have h1 := Go.heap_setCell_same _ b 1 _ _ v1 h0
  have h2 := Go.heap_setCell_same _ b 2 _ _ v2 h1
  have h3 := Go.heap_setCell_same _ b 3 _ _ v3 h2
  have h4 := Go.heap_setCell_same _ b 4 _ _ v4 h3
  have h5 := Go.heap_setCell_same _ b 5 _ _ v5 h4
  have h6 := Go.heap_setCell_same _ b 6 _ _ v6 h5
  simpa using h6
theorem own7 {w : World} {base : Nat} {v : Value} {l : List UInt8} {cs : Array Value} {T : TypeId} (b : Nat) (h : Own w base v l) (hb : w.heap[b]? = some (.cells cs T)) (hT : T ≠ 5) (i : Nat) (u : Value) : Own (w.setCell ⟨b, i, none⟩ u) base v l := by
  obtain ⟨q1, q2⟩ := h
  refine ⟨q1, ?_⟩
  rcases q2 with q2 | ⟨g, cap, cur, hv, hg, hw, r⟩
  · exact .inl q2
  · refine .inr ⟨g, cap, cur, hv, hg, ?_, r⟩
    rw [Below.heap_setCell _ _ _ _ (fun e => ?_)]
    · exact hw
    · have e' : g = b := e
      rw [e', hb] at hw
      simp at hw
      exact hT hw.2
/-- What forbids to put an entry. -/
def mpF (fr : Bool) (h : Int) (n : Nat) (a : Ag) : Int := if h < 1 ∨ 8 < h then 1 else if fr = true then 7 else if n < 1 ∨ 256 < n then 40 else if a.c = 0 ∨ rightB a = false then 3 else 0
theorem mayPut_any (L0 : Nat) (fr : Bool) (kv : Value) (k : Ks) (a : Ag) (h : Int) (w : World) (hL : L0 < w.heap.size) (hc : w.cell? ⟨L0, 17, none⟩ = some (.bool fr)) (hR : Reads w kv k) : Calls Try.prog 21 #[.pointer (some ⟨L0, 0, none⟩), env kv a, .int .i64 h] w fun e w' => e = .returned (.int .i64 (mpF fr h k.length a)) ∧ Below w.heap.size w w' := by
  obtain ⟨ak, ck, rfl, _⟩ := hR.form
  clear hR
  have HB : Hid (Below w.heap.size w (w.alloc (.cells #[.slice ak k.length ck, .int .u64 a.c, .bool a.o, .int .i64 (hi a.s), .int .u64 (lo a.s), .int .i64 a.mn, .int .i64 a.mx] 36))) := (Below.refl _ _).alloc (Nat.le_refl _) _
  have hc2 := (HB.out.cell (p := ⟨L0, 17, none⟩) hL).trans hc
  clear hc
  unfold env mpF
  by_cases h1 : h < 1 ∨ 8 < h
  · rw [if_pos h1]
    by_cases h2 : h < 1
    · go_enter Try.func21, Try.ntmps21
      go_wp2_with fail
      go_ret
      exact ⟨rfl, HB.out⟩
    · have h3 : 8 < h := by omega
      go_enter Try.func21, Try.ntmps21
      go_wp2_with fail
      go_ret
      exact ⟨rfl, HB.out⟩
  rw [if_neg h1]
  have h2 : ¬ h < 1 := by omega
  have h3 : ¬ 8 < h := by omega
  clear h1
  cases hfr : fr
  · rw [hfr] at hc2
    simp only [Bool.false_eq_true, if_false]
    by_cases h4 : k.length < 1 ∨ 256 < k.length
    · rw [if_pos h4]
      by_cases h5 : k.length < 1
      · have h6 : (k.length : Int) < 1 := by omega
        go_enter Try.func21, Try.ntmps21
        go_wp2_with fail
        go_ret
        exact ⟨rfl, HB.out⟩
      · have h6 : ¬ (k.length : Int) < 1 := by omega
        have h7 : (256 : Int) < (k.length : Int) := by omega
        go_enter Try.func21, Try.ntmps21
        go_wp2_with fail
        go_ret
        exact ⟨rfl, HB.out⟩
    rw [if_neg h4]
    have h6 : ¬ (k.length : Int) < 1 := by omega
    have h7 : ¬ (256 : Int) < (k.length : Int) := by omega
    clear h4
    by_cases h8 : a.c = 0
    · rw [if_pos (.inl h8)]
      rw [h8] at hc2 HB ⊢
      clear h8
      go_enter Try.func21, Try.ntmps21
      go_wp2_with fail
      go_ret
      exact ⟨rfl, HB.out⟩
    · have HRT : Hid _ := right_any a (w.alloc (.cells #[.slice ak k.length ck, .int .u64 a.c, .bool a.o, .int .i64 (hi a.s), .int .u64 (lo a.s), .int .i64 a.mn, .int .i64 a.mx] 36))
      obtain ⟨rb, Hrb⟩ := hid_ex (rightB a)
      rw [← Hrb.out] at HRT ⊢
      cases rb
      · rw [if_pos (.inr rfl)]
        go_enter Try.func21, Try.ntmps21
        go_wp2_with fail
        refine Calls.mono HRT.out ?_
        rintro e w2 ⟨rfl, hb2⟩
        have HB2 : Hid (Below w.heap.size w w2) := HB.out.trans (hb2.mono HB.out.size)
        clear hb2
        go_wp2_with fail
        go_ret
        exact ⟨rfl, HB2.out⟩
      · rw [if_neg (by simp [h8])]
        go_enter Try.func21, Try.ntmps21
        go_wp2_with fail
        refine Calls.mono HRT.out ?_
        rintro e w2 ⟨rfl, hb2⟩
        have HB2 : Hid (Below w.heap.size w w2) := HB.out.trans (hb2.mono HB.out.size)
        clear hb2
        go_wp2_with fail
        go_ret
        exact ⟨rfl, HB2.out⟩
  · rw [hfr] at hc2
    simp only [if_true]
    go_enter Try.func21, Try.ntmps21
    go_wp2_with fail
    go_ret
    exact ⟨rfl, HB.out⟩
theorem copied_any (kv : Value) (k : Ks) (a : Ag) (w : World) (hR : Reads w kv k) (h0 : 0 < k.length) (h1 : k.length ≤ 1000) : Calls Try.prog 25 #[env kv a] w fun e w' => ∃ kv', e = .returned (env kv' a) ∧ Own w' w.heap.size kv' k ∧ Below w.heap.size w w' := by
  have HR : Hid (Reads w kv k) := hR
  obtain ⟨ak, ck, rfl, _⟩ := hR.form
  clear hR
  unfold env
  have hal := ((Below.refl w.heap.size w).alloc (Nat.le_refl _) (.cells #[.slice ak k.length ck, .int .u64 a.c, .bool a.o, .int .i64 (hi a.s), .int .u64 (lo a.s), .int .i64 a.mn, .int .i64 a.mx] 36)).alloc (by simp) (.cells #[.slice none 0 0, .int .u64 0, .bool false, .int .i64 0, .int .u64 0, .int .i64 0, .int .i64 0] 36)
  have hx1 := World.alloc_heap_new w (.cells #[.slice ak k.length ck, .int .u64 a.c, .bool a.o, .int .i64 (hi a.s), .int .u64 (lo a.s), .int .i64 a.mn, .int .i64 a.mx] 36)
  have hx2 := (((Below.refl (w.heap.size + 1) (w.alloc (.cells #[.slice ak k.length ck, .int .u64 a.c, .bool a.o, .int .i64 (hi a.s), .int .u64 (lo a.s), .int .i64 a.mn, .int .i64 a.mx] 36))).alloc (by simp) (.cells #[.slice none 0 0, .int .u64 0, .bool false, .int .i64 0, .int .u64 0, .int .i64 0, .int .i64 0] 36)).block w.heap.size (by omega)).trans hx1
  have hy2 := World.alloc_heap_new (w.alloc (.cells #[.slice ak k.length ck, .int .u64 a.c, .bool a.o, .int .i64 (hi a.s), .int .u64 (lo a.s), .int .i64 a.mn, .int .i64 a.mx] 36)) (.cells #[.slice none 0 0, .int .u64 0, .bool false, .int .i64 0, .int .u64 0, .int .i64 0, .int .i64 0] 36)
  rw [World.size_alloc] at hy2
  obtain ⟨w2, HW2⟩ := hid_ex ((w.alloc (.cells #[.slice ak k.length ck, .int .u64 a.c, .bool a.o, .int .i64 (hi a.s), .int .u64 (lo a.s), .int .i64 a.mn, .int .i64 a.mx] 36)).alloc (.cells #[.slice none 0 0, .int .u64 0, .bool false, .int .i64 0, .int .u64 0, .int .i64 0, .int .i64 0] 36))
  have hs2 : w2.heap.size = w.heap.size + 1 + 1 := by rw [HW2.out]; simp
  rw [← HW2.out] at hal hx2 hy2
  obtain ⟨i0, hi0, hz0, hz1, hz2⟩ := info_parts info5
  obtain ⟨w3, hrn, hown3, hg3⟩ := run_make_full (P := Try.prog) w2 w2.heap.size 23 5 i0 (.int .u8 0) 1 Try.underlying23 hi0 hz0 hz1 .i64 .i64 k.length (by rw [hz2]; omega) (by unfold maxLen; omega) (Nat.le_refl _)
  rw [Nat.mul_one] at hown3
  have HO3 : Hid (Own w3 w2.heap.size (.slice (some ⟨w2.heap.size, 0, none⟩) k.length k.length) (List.replicate k.length 0)) := own_zeros hown3
  have HB3' : Hid (Below w2.heap.size w2 w3) := (Below.refl _ _).grown hg3 (Nat.le_refl _) (fun k hk => by cases hk)
  have HB3 : Hid (Below w.heap.size w w3) := hal.trans (HB3'.out.mono (by omega))
  have HX3 : Hid (w3.heap[w.heap.size]? = some (.cells #[.slice ak k.length ck, .int .u64 a.c, .bool a.o, .int .i64 (hi a.s), .int .u64 (lo a.s), .int .i64 a.mn, .int .i64 a.mx] 36)) := (HB3'.out.block _ (by omega)).trans hx2
  have HY3 : Hid (w3.heap[w.heap.size + 1]? = some (.cells #[.slice none 0 0, .int .u64 0, .bool false, .int .i64 0, .int .u64 0, .int .i64 0, .int .i64 0] 36)) := (HB3'.out.block _ (by omega)).trans hy2
  obtain ⟨cx0, _⟩ := cell_row HX3.out 0 (by simp)
  simp only [List.getElem_toArray, List.getElem_cons_zero] at cx0
  clear hown3 hg3 hal hx1 hx2 hy2 hi0 hz0 hz1 hz2
  obtain ⟨w4, hcp, HO4, hb4, hg4⟩ := copy_own (off := 0) 3 HO3.out (HR.out.below HB3.out) h0 (by simp)
  rw [hs2] at HO4 hcp hb4 hg4
  rw [Nat.sub_zero] at hcp
  rw [List.take_zero, List.nil_append] at HO4
  have HO4 := HO4.mono (show w.heap.size ≤ w.heap.size + 1 + 1 by omega)
  have HB4 : Hid (Below w.heap.size w w4) := HB3.out.trans (hb4.out.mono (by omega))
  have HX4 : Hid (w4.heap[w.heap.size]? = some (.cells #[.slice ak k.length ck, .int .u64 a.c, .bool a.o, .int .i64 (hi a.s), .int .u64 (lo a.s), .int .i64 a.mn, .int .i64 a.mx] 36)) := (hg4.out.block _ (Array.getElem?_eq_some_iff.1 HX3.out).1 (by simp; omega)).trans HX3.out
  have HY4 : Hid (w4.heap[w.heap.size + 1]? = some (.cells #[.slice none 0 0, .int .u64 0, .bool false, .int .i64 0, .int .u64 0, .int .i64 0, .int .i64 0] 36)) := (hg4.out.block _ (Array.getElem?_eq_some_iff.1 HY3.out).1 (by simp)).trans HY3.out
  obtain ⟨a1, _⟩ := cell_row HX4.out 1 (by simp)
  simp only [List.getElem_toArray, List.getElem_cons_succ, List.getElem_cons_zero] at a1
  obtain ⟨a2, _⟩ := cell_row HX4.out 2 (by simp)
  simp only [List.getElem_toArray, List.getElem_cons_succ, List.getElem_cons_zero] at a2
  obtain ⟨a3, _⟩ := cell_row HX4.out 3 (by simp)
  simp only [List.getElem_toArray, List.getElem_cons_succ, List.getElem_cons_zero] at a3
  obtain ⟨a4, _⟩ := cell_row HX4.out 4 (by simp)
  simp only [List.getElem_toArray, List.getElem_cons_succ, List.getElem_cons_zero] at a4
  obtain ⟨a5, _⟩ := cell_row HX4.out 5 (by simp)
  simp only [List.getElem_toArray, List.getElem_cons_succ, List.getElem_cons_zero] at a5
  obtain ⟨a6, _⟩ := cell_row HX4.out 6 (by simp)
  simp only [List.getElem_toArray, List.getElem_cons_succ, List.getElem_cons_zero] at a6
  obtain ⟨z0, f0⟩ := cell_row HY4.out 0 (by simp)
  simp only [List.getElem_toArray, List.getElem_cons_zero] at z0
  obtain ⟨z1, f1⟩ := cell_row HY4.out 1 (by simp)
  simp only [List.getElem_toArray, List.getElem_cons_succ, List.getElem_cons_zero] at z1
  obtain ⟨z2, f2⟩ := cell_row HY4.out 2 (by simp)
  simp only [List.getElem_toArray, List.getElem_cons_succ, List.getElem_cons_zero] at z2
  obtain ⟨z3, f3⟩ := cell_row HY4.out 3 (by simp)
  simp only [List.getElem_toArray, List.getElem_cons_succ, List.getElem_cons_zero] at z3
  obtain ⟨z4, f4⟩ := cell_row HY4.out 4 (by simp)
  simp only [List.getElem_toArray, List.getElem_cons_succ, List.getElem_cons_zero] at z4
  obtain ⟨z5, f5⟩ := cell_row HY4.out 5 (by simp)
  simp only [List.getElem_toArray, List.getElem_cons_succ, List.getElem_cons_zero] at z5
  obtain ⟨z6, f6⟩ := cell_row HY4.out 6 (by simp)
  simp only [List.getElem_toArray, List.getElem_cons_succ, List.getElem_cons_zero] at z6
  have HBE : Hid (Below w.heap.size w _) := (((((((HB4.out.setCell (p := ⟨w.heap.size + 1, 0, none⟩) (by simp) (.slice (some ⟨w.heap.size + 1 + 1, 0, none⟩) k.length k.length)).setCell (p := ⟨w.heap.size + 1, 1, none⟩) (by simp) (.int .u64 a.c)).setCell (p := ⟨w.heap.size + 1, 2, none⟩) (by simp) (.bool a.o)).setCell (p := ⟨w.heap.size + 1, 3, none⟩) (by simp) (.int .i64 (hi a.s))).setCell (p := ⟨w.heap.size + 1, 4, none⟩) (by simp) (.int .u64 (lo a.s))).setCell (p := ⟨w.heap.size + 1, 5, none⟩) (by simp) (.int .i64 a.mn)).setCell (p := ⟨w.heap.size + 1, 6, none⟩) (by simp) (.int .i64 a.mx))
  have HOE : Hid (Own _ w.heap.size (.slice (some ⟨w.heap.size + 1 + 1, 0, none⟩) k.length k.length) k) := (own7 (w.heap.size + 1) (own7 (w.heap.size + 1) (own7 (w.heap.size + 1) (own7 (w.heap.size + 1) (own7 (w.heap.size + 1) (own7 (w.heap.size + 1) (own7 (w.heap.size + 1) HO4 HY4.out (by decide) 0 (.slice (some ⟨w.heap.size + 1 + 1, 0, none⟩) k.length k.length)) (Go.heap_setCell_same _ (w.heap.size + 1) 0 _ _ (.slice (some ⟨w.heap.size + 1 + 1, 0, none⟩) k.length k.length) HY4.out) (by decide) 1 (.int .u64 a.c)) (Go.heap_setCell_same _ (w.heap.size + 1) 1 _ _ (.int .u64 a.c) (Go.heap_setCell_same _ (w.heap.size + 1) 0 _ _ (.slice (some ⟨w.heap.size + 1 + 1, 0, none⟩) k.length k.length) HY4.out)) (by decide) 2 (.bool a.o)) (Go.heap_setCell_same _ (w.heap.size + 1) 2 _ _ (.bool a.o) (Go.heap_setCell_same _ (w.heap.size + 1) 1 _ _ (.int .u64 a.c) (Go.heap_setCell_same _ (w.heap.size + 1) 0 _ _ (.slice (some ⟨w.heap.size + 1 + 1, 0, none⟩) k.length k.length) HY4.out))) (by decide) 3 (.int .i64 (hi a.s))) (Go.heap_setCell_same _ (w.heap.size + 1) 3 _ _ (.int .i64 (hi a.s)) (Go.heap_setCell_same _ (w.heap.size + 1) 2 _ _ (.bool a.o) (Go.heap_setCell_same _ (w.heap.size + 1) 1 _ _ (.int .u64 a.c) (Go.heap_setCell_same _ (w.heap.size + 1) 0 _ _ (.slice (some ⟨w.heap.size + 1 + 1, 0, none⟩) k.length k.length) HY4.out)))) (by decide) 4 (.int .u64 (lo a.s))) (Go.heap_setCell_same _ (w.heap.size + 1) 4 _ _ (.int .u64 (lo a.s)) (Go.heap_setCell_same _ (w.heap.size + 1) 3 _ _ (.int .i64 (hi a.s)) (Go.heap_setCell_same _ (w.heap.size + 1) 2 _ _ (.bool a.o) (Go.heap_setCell_same _ (w.heap.size + 1) 1 _ _ (.int .u64 a.c) (Go.heap_setCell_same _ (w.heap.size + 1) 0 _ _ (.slice (some ⟨w.heap.size + 1 + 1, 0, none⟩) k.length k.length) HY4.out))))) (by decide) 5 (.int .i64 a.mn)) (Go.heap_setCell_same _ (w.heap.size + 1) 5 _ _ (.int .i64 a.mn) (Go.heap_setCell_same _ (w.heap.size + 1) 4 _ _ (.int .u64 (lo a.s)) (Go.heap_setCell_same _ (w.heap.size + 1) 3 _ _ (.int .i64 (hi a.s)) (Go.heap_setCell_same _ (w.heap.size + 1) 2 _ _ (.bool a.o) (Go.heap_setCell_same _ (w.heap.size + 1) 1 _ _ (.int .u64 a.c) (Go.heap_setCell_same _ (w.heap.size + 1) 0 _ _ (.slice (some ⟨w.heap.size + 1 + 1, 0, none⟩) k.length k.length) HY4.out)))))) (by decide) 6 (.int .i64 a.mx))
  clear hb4 hg4 HO4
  go_enter Try.func25, Try.ntmps25
  rw [HW2.out] at hrn
  go_wp2_with fail
  refine bodyPost_ret (results_cell_row rfl _ _ (w.heap.size + 1) _ _ (0, 0) _ rfl (set7 HY4.out _ _ _ _ _ _ _) Try.underlying36 rfl (by kernel_rfl)) rfl ⟨_, rfl, HOE.out, HBE.out⟩
end Go.Proofs.Ytopemhlkjicjpaa

/- What putting an entry makes of the towers. -/
namespace Go.Proofs.Ytopemhlkjicjpaa
open Go.RowKit

def insN (N : List Nd) (i : Nat) (x : Nd) : List Nd := N.take i ++ x :: N.drop i
theorem insN_len (N : List Nd) (i : Nat) (x : Nd) (hi : i ≤ N.length) : (insN N i x).length = N.length + 1 := by unfold insN; simp; omega
theorem insN_lt {N : List Nd} {i : Nat} {x : Nd} {j : Nat} (hj : j < i) (hi : i ≤ N.length) : (insN N i x)[j]'(by rw [insN_len _ _ _ hi]; omega) = N[j] := by
  unfold insN; rw [List.getElem_append_left (by simp; omega)]; simp
theorem insN_eq {N : List Nd} {i : Nat} {x : Nd} (hi : i ≤ N.length) : (insN N i x)[i]'(by rw [insN_len _ _ _ hi]; omega) = x := by
  unfold insN; rw [List.getElem_append_right (by simp; omega)]; simp [Nat.min_eq_left hi]
theorem insN_gt {N : List Nd} {i : Nat} {x : Nd} {j : Nat} (hj : i ≤ j) (hjn : j < N.length) : (insN N i x)[j + 1]'(by rw [insN_len _ _ _ (by omega)]; omega) = N[j] := by
  unfold insN
  rw [List.getElem_append_right (by simp; omega)]
  have e : j + 1 - (N.take i).length = (j - i) + 1 := by simp; omega
  simp only [e, List.getElem_cons_succ, List.getElem_drop]
  congr 1; omega
theorem insN_drop {N : List Nd} {i : Nat} {x : Nd} {p : Nat} (hp : p ≤ i) (hi : i ≤ N.length) : (insN N i x).drop p = (N.drop p).take (i - p) ++ x :: N.drop i := by
  unfold insN
  rw [List.drop_append_of_le_length (by simp; omega), List.drop_take]
theorem drop_split {N : List Nd} {i p : Nat} (hp : p ≤ i) : N.drop p = (N.drop p).take (i - p) ++ N.drop i := by
  have := (List.take_append_drop (i - p) (N.drop p)).symm
  rw [List.drop_drop, show p + (i - p) = i by omega] at this
  exact this
theorem insN_drop_gt {N : List Nd} {i : Nat} {x : Nd} {p : Nat} (hp : i ≤ p) (hi : i ≤ N.length) : (insN N i x).drop (p + 1) = N.drop p := by
  unfold insN
  rw [List.drop_append, List.drop_of_length_le (by simp; omega), List.nil_append]
  have e : p + 1 - (N.take i).length = (p - i) + 1 := by simp; omega
  rw [e, List.drop_succ_cons, List.drop_drop]; congr 1; omega
theorem hgt_ins_le {N : List Nd} {i : Nat} {x : Nd} {p : Nat} (hp : p ≤ i) (hi : i ≤ N.length) : hgt (insN N i x) p = hgt N p := by
  cases p with
  | zero => rfl
  | succ p => rw [hgt_at (by rw [insN_len _ _ _ hi]; omega), hgt_at (by omega), insN_lt (by omega) hi]
theorem nxt_append (A B : List Nd) (k : Nat) : nxt (A ++ B) k = if (A.find? fun x => decide (k < x.h)).isSome then nxt A k else nxt B k := by
  unfold nxt
  rw [List.find?_append]
  cases h : A.find? fun x => decide (k < x.h) <;> simp
theorem mid_none {N : List Nd} {i p k : Nat} (hi : i ≤ N.length) (h : ∀ j, p < j → j ≤ i → ¬ k < hgt N j) : (((N.drop p).take (i - p)).find? fun x => decide (k < x.h)).isSome = false := by
  rw [Option.isSome_eq_false_iff, Option.isNone_iff_eq_none, List.find?_eq_none]
  intro x hx
  obtain ⟨j, hj, rfl⟩ := List.mem_iff_getElem.1 hx
  simp at hj
  have := h (p + j + 1) (by omega) (by omega)
  rw [hgt_at (by omega)] at this
  simpa using this
theorem mid_some {N : List Nd} {i p k j : Nat} (hi : i ≤ N.length) (h1 : p < j) (h2 : j ≤ i) (h : k < hgt N j) : (((N.drop p).take (i - p)).find? fun x => decide (k < x.h)).isSome = true := by
  obtain ⟨j, rfl⟩ : ∃ j', j = j' + 1 := ⟨j - 1, by omega⟩
  rw [hgt_at (by omega)] at h
  rw [List.find?_isSome]
  refine ⟨N[j], ?_, by simpa using h⟩
  rw [List.mem_iff_getElem]
  exact ⟨j - p, by simp; omega, by simp [show p + (j - p) = j by omega]⟩
theorem nxF_bp {N : List Nd} {i k : Nat} (hi : i ≤ N.length) (hk : k < 8) : nxFS N (bp N k i) k = nxt (N.drop i) k := by
  unfold nxFS
  rw [if_pos (bp_hgt N k hk i), drop_split (bp_le N k i), nxt_append, mid_none hi (fun j h1 h2 => bp_none i j h1 h2)]
  simp
theorem nxF_ins_le {N : List Nd} {i k p : Nat} {x : Nd} (hi : i ≤ N.length) (hk : k < 8) (hp : p ≤ i) : nxFS (insN N i x) p k = if k < x.h ∧ p = bp N k i then .pointer (some ⟨x.b, 0, none⟩) else nxFS N p k := by
  by_cases hh : k < hgt N p
  · have e0 : nxFS (insN N i x) p k = nxt ((N.drop p).take (i - p) ++ x :: N.drop i) k := by unfold nxFS; rw [hgt_ins_le hp hi, if_pos hh, insN_drop hp hi]
    have e1 : nxFS N p k = nxt ((N.drop p).take (i - p) ++ N.drop i) k := by unfold nxFS; rw [if_pos hh, ← drop_split hp]
    rw [e0, e1, nxt_append, nxt_append]
    by_cases hb : p = bp N k i
    · have hm := mid_none (p := p) hi (fun j h1 h2 => bp_none (N := N) (k := k) i j (by omega) h2)
      rw [hm]
      simp only [Bool.false_eq_true, if_false]
      by_cases hx : k < x.h
      · rw [if_pos ⟨hx, hb⟩]; unfold nxt; rw [List.find?_cons_of_pos (by simpa using hx)]; rfl
      · rw [if_neg (fun h => hx h.1)]; unfold nxt; rw [List.find?_cons_of_neg (by simpa using hx)]
    · have hlt : p < bp N k i := by
        rcases Nat.lt_or_ge p (bp N k i) with h | h
        · exact h
        · exact absurd hh (bp_none i p (by omega) hp)
      rw [mid_some hi hlt (bp_le N k i) (bp_hgt N k hk i)]
      simp only [if_true]
      rw [if_neg (fun h => hb h.2)]
  · have hb : p ≠ bp N k i := fun e => hh (e ▸ bp_hgt N k hk i)
    rw [if_neg (fun h => hb h.2)]
    unfold nxFS
    rw [hgt_ins_le hp hi, if_neg hh, if_neg hh]
theorem nxF_ins_new {N : List Nd} {i k : Nat} {x : Nd} (hi : i ≤ N.length) : nxFS (insN N i x) (i + 1) k = if k < x.h then nxt (N.drop i) k else .pointer none := by
  unfold nxFS
  rw [hgt_at (by rw [insN_len _ _ _ hi]; omega), insN_eq hi, insN_drop_gt (Nat.le_refl _) hi]
theorem nxF_ins_gt {N : List Nd} {i k p : Nat} {x : Nd} (hi : i ≤ N.length) (hp : i < p) (hpn : p ≤ N.length) : nxFS (insN N i x) (p + 1) k = nxFS N p k := by
  obtain ⟨p, rfl⟩ : ∃ q, p = q + 1 := ⟨p - 1, by omega⟩
  unfold nxFS
  rw [hgt_at (by rw [insN_len _ _ _ hi]; omega), hgt_at (by omega), insN_gt (by omega) (by omega), insN_drop_gt (by omega) hi]
theorem hdc_set (f : Nat → Value) (n sz : Int) (fr : Bool) (k : Nat) (hk : k < 8) (v : Value) : (hdc f n sz fr).setIfInBounds (7 + k) v = hdc (fun j => if j = k then v else f j) n sz fr := by
  match k, hk with
  | 0, _ | 1, _ | 2, _ | 3, _ | 4, _ | 5, _ | 6, _ | 7, _ => simp [hdc]
theorem ndc_set (kv : Value) (a : Ag) (f : Nat → Value) (k : Nat) (hk : k < 8) (v : Value) : (ndc kv a f).setIfInBounds (7 + k) v = ndc kv a (fun j => if j = k then v else f j) := by
  match k, hk with
  | 0, _ | 1, _ | 2, _ | 3, _ | 4, _ | 5, _ | 6, _ | 7, _ => simp [ndc]
theorem hdc_congr {f g : Nat → Value} {n sz : Int} {fr : Bool} (h : ∀ k, k < 8 → f k = g k) : hdc f n sz fr = hdc g n sz fr := by
  unfold hdc; rw [h 0 (by decide), h 1 (by decide), h 2 (by decide), h 3 (by decide), h 4 (by decide), h 5 (by decide), h 6 (by decide), h 7 (by decide)]
theorem ndc_congr {f g : Nat → Value} {kv : Value} {a : Ag} (h : ∀ k, k < 8 → f k = g k) : ndc kv a f = ndc kv a g := by
  unfold ndc; rw [h 0 (by decide), h 1 (by decide), h 2 (by decide), h 3 (by decide), h 4 (by decide), h 5 (by decide), h 6 (by decide), h 7 (by decide)]
/-- A next place is set. -/
theorem SLm.setNext {w : World} {base L0 : Nat} {N : List Nd} {F : Nat → Nat → Value} {n sz : Int} {fr : Bool} (h : SLm w base L0 N F n sz fr) {p k : Nat} (hp : p ≤ N.length) (hk : k < 8) (v : Value) :
    SLm (w.setCell ⟨blk L0 N p, 7 + k, none⟩ v) base L0 N (fun q j => if q = p ∧ j = k then v else F q j) n sz fr := by
  have hT : ∀ q, q ≤ N.length → q ≠ p → blk L0 N q ≠ blk L0 N p := fun q hq hne e => hne (blk_inj h hq hp e)
  refine ⟨?_, fun i hi => ?_, fun i hi => ?_, h.b0, h.bs, h.ne⟩
  · by_cases e : p = 0
    · subst e
      have := Go.heap_setCell_same w L0 (7 + k) _ _ v h.hd
      rw [hdc_set _ _ _ _ k hk] at this
      refine this.trans ?_
      congr 2
      exact hdc_congr (fun j _ => by simp)
    · rw [Below.heap_setCell _ _ _ _ (show L0 ≠ blk L0 N p from hT 0 (by omega) (fun h => e h.symm))]
      rw [h.hd]; congr 2
      exact hdc_congr (fun j _ => by rw [if_neg (fun h => e h.1.symm)])
  · by_cases e : p = i + 1
    · subst e
      rw [blk_at hi]
      have := Go.heap_setCell_same w N[i].b (7 + k) _ _ v (h.nd i hi)
      rw [ndc_set _ _ _ k hk] at this
      refine this.trans ?_
      congr 2
      exact ndc_congr (fun j _ => by simp)
    · rw [Below.heap_setCell _ _ _ _ (show N[i].b ≠ blk L0 N p from by rw [← blk_at (L0 := L0) hi]; exact hT (i + 1) (by omega) (fun h => e h.symm))]
      rw [h.nd i hi]; congr 2
      exact ndc_congr (fun j _ => by rw [if_neg (fun h => e h.1.symm)])
  · cases p with
    | zero => exact own7 L0 (h.ky i hi) h.hd (by decide) _ _
    | succ p => rw [blk_at (by omega)]; exact own7 _ (h.ky i hi) (h.nd p (by omega)) (by decide) _ _
end Go.Proofs.Ytopemhlkjicjpaa

/- The contract of Put, where nothing is put. -/
namespace Go.Proofs.Ytopemhlkjicjpaa
open Go.RowKit

theorem SL.frozen {w : World} {base L0 : Nat} {N : List Nd} {sz : Int} {fr : Bool} (h : SL w base L0 N sz fr) : w.cell? ⟨L0, 17, none⟩ = some (.bool fr) ∧ w.cell? ⟨L0, 15, none⟩ = some (.int .i64 (N.length : Int)) ∧ w.cell? ⟨L0, 16, none⟩ = some (.int .i64 sz) ∧ L0 < w.heap.size := by
  have := h.1.hd
  refine ⟨by simp [World.cell?, this, hdc], by simp [World.cell?, this, hdc], by simp [World.cell?, this, hdc], (Array.getElem?_eq_some_iff.1 this).1⟩
/-- All cells but those of lists and their entries stand. -/
def Kt (A B : World) : Prop := ∀ (c : Nat) (cs : Array Value) (T : TypeId) (fr : Nat × Nat), T ≠ 55 → T ≠ 57 → A.heap[c]? = some (.cells cs T fr) → B.heap[c]? = some (.cells cs T fr)
theorem Kt.of_below {A B : World} (h : Below A.heap.size A B) : Kt A B := fun c _ _ _ _ _ hc => (h.block c (Array.getElem?_eq_some_iff.1 hc).1).trans hc
theorem Kt.trans {A B C : World} (h : Kt A B) (k : Kt B C) : Kt A C := fun c cs T fr h1 h2 hc => k c cs T fr h1 h2 (h c cs T fr h1 h2 hc)
theorem Kt.set {A B : World} (h : Kt A B) {c0 : Nat} {cs0 : Array Value} {T0 : TypeId} {fr0 : Nat × Nat} (h0 : B.heap[c0]? = some (.cells cs0 T0 fr0)) (hT : T0 = 55 ∨ T0 = 57) (i : Nat) (v : Value) : Kt A (B.setCell ⟨c0, i, none⟩ v) := by
  intro c cs T fr h1 h2 hc
  have hB := h c cs T fr h1 h2 hc
  rw [Below.heap_setCell _ _ _ _ (fun e => ?_)]
  · exact hB
  · have e' : c = c0 := e
    rw [e', h0] at hB
    simp at hB
    rcases hT with hT | hT
    · exact h1 (hB.2.1.symm.trans hT)
    · exact h2 (hB.2.1.symm.trans hT)
/-- What is known of an entry is set. -/
def setA (w : World) (b : Nat) (a : Ag) : World := (((((w.setCell ⟨b, 1, none⟩ (.int .u64 a.c)).setCell ⟨b, 2, none⟩ (.bool a.o)).setCell ⟨b, 3, none⟩ (.int .i64 (hi a.s))).setCell ⟨b, 4, none⟩ (.int .u64 (lo a.s))).setCell ⟨b, 5, none⟩ (.int .i64 a.mn)).setCell ⟨b, 6, none⟩ (.int .i64 a.mx)
theorem setA_same {w : World} {b : Nat} {kv : Value} {a0 : Ag} {f : Nat → Value} {T : TypeId} (a : Ag) (h : w.heap[b]? = some (.cells (ndc kv a0 f) T)) : (setA w b a).heap[b]? = some (.cells (ndc kv a f) T) := by
  have h1 := Go.heap_setCell_same w b 1 _ _ (.int .u64 a.c) h
  have h2 := Go.heap_setCell_same _ b 2 _ _ (.bool a.o) h1
  have h3 := Go.heap_setCell_same _ b 3 _ _ (.int .i64 (hi a.s)) h2
  have h4 := Go.heap_setCell_same _ b 4 _ _ (.int .u64 (lo a.s)) h3
  have h5 := Go.heap_setCell_same _ b 5 _ _ (.int .i64 a.mn) h4
  have h6 := Go.heap_setCell_same _ b 6 _ _ (.int .i64 a.mx) h5
  unfold setA
  simpa [ndc] using h6
theorem setA_other {w : World} {b c : Nat} (a : Ag) (h : c ≠ b) : (setA w b a).heap[c]? = w.heap[c]? := by
  unfold setA
  rw [Below.heap_setCell _ _ _ _ h, Below.heap_setCell _ _ _ _ h, Below.heap_setCell _ _ _ _ h, Below.heap_setCell _ _ _ _ h, Below.heap_setCell _ _ _ _ h, Below.heap_setCell _ _ _ _ h]
theorem setA_below {w0 w : World} {n b : Nat} (a : Ag) (h : Below n w0 w) (hb : n ≤ b) : Below n w0 (setA w b a) := (((((h.setCell hb _).setCell hb _).setCell hb _).setCell hb _).setCell hb _).setCell hb _
theorem setA_kt {w0 w : World} {b : Nat} {kv : Value} {a0 : Ag} {f : Nat → Value} (a : Ag) (h : Kt w0 w) (hb : w.heap[b]? = some (.cells (ndc kv a0 f) 55)) : Kt w0 (setA w b a) := by
  intro c cs T fr h1 h2 hc
  have hB := h c cs T fr h1 h2 hc
  rw [setA_other a (fun e => ?_)]
  · exact hB
  · rw [e, hb] at hB
    simp at hB
    exact h1 hB.2.1.symm
theorem SLm.setAgg {w : World} {base L0 : Nat} {N : List Nd} {F : Nat → Nat → Value} {n sz : Int} {fr : Bool} (h : SLm w base L0 N F n sz fr) {i : Nat} (hil : i < N.length) (a : Ag) :
    SLm (setA w N[i].b a) base L0 (N.set i { N[i] with a := a }) F n sz fr := by
  have hN : ∀ j (hj : j < (N.set i { N[i] with a := a }).length), (N.set i { N[i] with a := a })[j].b = (N[j]'(by simpa using hj)).b ∧ (N.set i { N[i] with a := a })[j].kv = (N[j]'(by simpa using hj)).kv ∧ (N.set i { N[i] with a := a })[j].k = (N[j]'(by simpa using hj)).k := by
    intro j hj
    rw [List.getElem_set]
    split
    · rename_i e; subst e; exact ⟨rfl, rfl, rfl⟩
    · exact ⟨rfl, rfl, rfl⟩
  have hmap : (N.set i { N[i] with a := a }).map Nd.b = N.map Nd.b := by
    apply List.ext_getElem
    · simp
    · intro j h1 h2; rw [List.getElem_map, List.getElem_map]; exact (hN j (by simpa using h1)).1
  refine ⟨?_, fun j hj => ?_, fun j hj => ?_, h.b0, fun x hx => ?_, by rw [hmap]; exact h.ne⟩
  · have hne : L0 ≠ N[i].b := by
      have := fun e => blk_inj h (p := 0) (q := i + 1) (by omega) (by omega) e
      rw [blk_at hil] at this
      exact fun e => by have := this e; omega
    rw [setA_other a hne]; exact h.hd
  · have hj' : j < N.length := by simpa using hj
    obtain ⟨e1, e2, e3⟩ := hN j hj
    by_cases e : i = j
    · subst e
      rw [e1, e2, show (N.set i { N[i] with a := a })[i].a = a from by rw [List.getElem_set_self]]
      exact setA_same a (h.nd i hil)
    · have hne : N[j].b ≠ N[i].b := by
        have := fun e' => blk_inj h (p := j + 1) (q := i + 1) (by omega) (by omega) e'
        rw [blk_at hj', blk_at hil] at this
        exact fun e' => e (by have := this e'; omega)
      rw [e1, e2, setA_other a hne, h.nd j hj', List.getElem_set_ne e]
  · have hj' : j < N.length := by simpa using hj
    obtain ⟨e1, e2, e3⟩ := hN j hj
    rw [e2, e3]
    have hk := h.ky j hj'
    obtain ⟨q1, q2⟩ := hk
    refine ⟨q1, ?_⟩
    rcases q2 with q2 | ⟨g, cap, cur, hv, hg, hw, r⟩
    · exact .inl q2
    · refine .inr ⟨g, cap, cur, hv, hg, ?_, r⟩
      rw [setA_other a (fun e => ?_)]
      · exact hw
      · rw [e, h.nd i hil] at hw
        simp at hw
  · obtain ⟨j, hj, rfl⟩ := List.mem_iff_getElem.1 hx
    rw [(hN j hj).1]; exact h.bs _ (List.getElem_mem _)
set_option maxRecDepth 100000 in
set_option maxHeartbeats 1000000 in
theorem put_no (L0 : Nat) (N : List Nd) (sz : Int) (fr : Bool) (kv : Value) (k : Ks) (a : Ag) (h : Int) (w : World) (base : Nat) (hS : SL w base L0 N sz fr) (hR : Reads w kv k) (hno : mpF fr h k.length a ≠ 0) :
    Calls Try.prog 7 #[.pointer (some ⟨L0, 0, none⟩), env kv a, .int .i64 h] w fun e w' => e = .returned (.int .i64 (mpF fr h k.length a)) ∧ Below w.heap.size w w' := by
  obtain ⟨cf, _, _, hL⟩ := hS.frozen
  have HR : Hid (Reads w kv k) := hR
  obtain ⟨ak, ck, rfl, _⟩ := hR.form
  have HB0 : Hid (Below w.heap.size w (w.alloc (.cells #[.slice ak k.length ck, .int .u64 a.c, .bool a.o, .int .i64 (hi a.s), .int .u64 (lo a.s), .int .i64 a.mn, .int .i64 a.mx] 36))) := (Below.refl _ _).alloc (Nat.le_refl _) _
  have HM : Hid _ := mayPut_any L0 fr _ k a h _ (by simp; omega) ((HB0.out.cell (p := ⟨L0, 17, none⟩) hL).trans cf) (HR.out.below HB0.out)
  unfold env at HM ⊢
  obtain ⟨q, Hq⟩ := hid_ex (mpF fr h k.length a)
  rw [← Hq.out] at HM hno ⊢
  clear hS hR cf
  go_enter Try.func7, Try.ntmps7
  go_wp2_with fail
  refine Calls.mono HM.out ?_
  rintro e w1 ⟨rfl, hb1⟩
  have HB1 : Hid (Below w.heap.size w w1) := HB0.out.trans (hb1.mono HB0.out.size)
  clear hb1
  go_wp2_with fail
  go_ret
  exact ⟨rfl, HB1.out⟩
set_option maxRecDepth 100000 in
set_option maxHeartbeats 1000000 in
theorem put_merge (L0 : Nat) (N : List Nd) (sz : Int) (fr : Bool) (kv : Value) (k : Ks) (a : Ag) (h : Int) (w : World) (base : Nat) (hbase : base ≤ w.heap.size) (hS : SL w base L0 N sz fr) (hR : Reads w kv k) (hok : mpF fr h k.length a = 0) (ha : 0 ≤ a.c ∧ a.c < 18446744073709551616) (i : Nat) (hil : i < N.length) (hip : i = plK (N.map Nd.k) k) (hik : N[i].k = k) :
    Calls Try.prog 7 #[.pointer (some ⟨L0, 0, none⟩), env kv a, .int .i64 h] w fun e w' => e = .returned (.int .i64 0) ∧ SLm w' base L0 (N.set i { N[i] with a := mrg N[i].a a }) (nxFS N) N.length sz fr ∧ Below base w w' ∧ Kt w w' := by
  obtain ⟨cf, _, _, hL⟩ := hS.frozen
  have HS : Hid (SL w base L0 N sz fr) := hS
  have HR : Hid (Reads w kv k) := hR
  obtain ⟨ak, ck, rfl, _⟩ := hR.form
  have HB0 : Hid (Below w.heap.size w (w.alloc (.cells #[.slice ak k.length ck, .int .u64 a.c, .bool a.o, .int .i64 (hi a.s), .int .u64 (lo a.s), .int .i64 a.mn, .int .i64 a.mx] 36))) := (Below.refl _ _).alloc (Nat.le_refl _) _
  have HM : Hid _ := mayPut_any L0 fr _ k a h _ (by simp; omega) ((HB0.out.cell (p := ⟨L0, 17, none⟩) hL).trans cf) (HR.out.below HB0.out)
  unfold env at HM ⊢
  rw [hok] at HM
  obtain ⟨w0, HW0⟩ := hid_ex (w.alloc (.cells #[.slice ak k.length ck, .int .u64 a.c, .bool a.o, .int .i64 (hi a.s), .int .u64 (lo a.s), .int .i64 a.mn, .int .i64 a.mx] 36))
  have HX0 : Hid (w0.heap[w.heap.size]? = some (.cells #[.slice ak k.length ck, .int .u64 a.c, .bool a.o, .int .i64 (hi a.s), .int .u64 (lo a.s), .int .i64 a.mn, .int .i64 a.mx] 36)) := by rw [HW0.out]; exact World.alloc_heap_new _ _
  have hs0 : w0.heap.size = w.heap.size + 1 := by rw [HW0.out]; simp
  rw [← HW0.out] at HB0 HM
  have HIP : Hid (i = plK (N.map Nd.k) k) := hip
  clear hS hR cf hip
  go_enter Try.func7, Try.ntmps7
  go_wp2_with fail
  rw [← HW0.out]
  refine Calls.mono HM.out ?_
  rintro e w1 ⟨rfl, hb1⟩
  have HB1 : Hid (Below w.heap.size w w1) := HB0.out.trans (hb1.mono HB0.out.size)
  have HX1 : Hid (w1.heap[w.heap.size]? = some (.cells #[.slice ak k.length ck, .int .u64 a.c, .bool a.o, .int .i64 (hi a.s), .int .u64 (lo a.s), .int .i64 a.mn, .int .i64 a.mx] 36)) := (hb1.block _ (by omega)).trans HX0.out
  have hs1 : w.heap.size + 1 ≤ w1.heap.size := by have := hb1.size; omega
  obtain ⟨cx0, _⟩ := cell_row HX1.out 0 (by simp)
  simp only [List.getElem_toArray, List.getElem_cons_zero] at cx0
  clear hb1 HM HX0 HB0
  go_wp2_with fail
  refine (before_any L0 N sz fr _ k w1 base (HS.out.below HB1.out) (HR.out.below HB1.out)).mono ?_
  rintro e w2 ⟨rfl, hb2⟩
  rw [← HIP.out]
  have HB2 : Hid (Below w.heap.size w w2) := HB1.out.trans (hb2.mono HB1.out.size)
  have HX2 : Hid (w2.heap[w.heap.size]? = some (.cells #[.slice ak k.length ck, .int .u64 a.c, .bool a.o, .int .i64 (hi a.s), .int .u64 (lo a.s), .int .i64 a.mn, .int .i64 a.mx] 36)) := (hb2.block _ (by omega)).trans HX1.out
  have hs2 : w.heap.size + 1 ≤ w2.heap.size := by have := hb2.size; omega
  obtain ⟨g, Hg⟩ := hid_ex (fun j => blk L0 N (bp N j i))
  have HEG : Hid ((fun j => (.pointer (some ⟨blk L0 N (bp N j i), 0, none⟩) : Value)) = fun j => .pointer (some ⟨g j, 0, none⟩)) := by rw [Hg.out]; rfl
  have HG0 : Hid (g 0 = blk L0 N i) := by rw [Hg.out]; unfold Hid; dsimp only; rw [bp_zero HS.out.2.ht (by omega)]
  rw [HEG.out]
  unfold ar8
  dsimp only
  obtain ⟨cN, _, hbl⟩ := HS.out.1.blk_hd (p := i) (by omega) (k := 0) (by decide)
  have cN2 := (HB2.out.cell (p := ⟨blk L0 N i, 7 + 0, none⟩) hbl).trans cN
  rw [← HG0.out] at cN2 hbl
  have hbl2 : g 0 < w2.heap.size := by have := HB2.out.size; omega
  obtain ⟨cx0, _⟩ := cell_row HX2.out 0 (by simp)
  simp only [List.getElem_toArray, List.getElem_cons_zero] at cx0
  obtain ⟨nd, Hnd⟩ := hid_ex N[i]
  have HP : Hid (nxFS N i 0 = .pointer (some ⟨nd.b, 0, none⟩)) := by unfold Hid; rw [nxF_zero HS.out.2.ht (by omega), dif_pos hil, Hnd.out]
  have HN : Hid (w.heap[nd.b]? = some (.cells (ndc nd.kv nd.a (nxFS N (i + 1))) 55)) := by have := HS.out.1.nd i hil; rw [← Hnd.out] at this; exact this
  have HKY : Hid (Reads w nd.kv nd.k) := by have := (HS.out.1.ky i hil).reads; rw [← Hnd.out] at this; exact this
  have HAG : Hid (0 ≤ nd.a.c ∧ nd.a.c < 18446744073709551616) := by have := HS.out.2.ag _ (List.getElem_mem hil); rw [← Hnd.out] at this; exact ⟨by omega, this.2.1⟩
  have HIK : Hid (nd.k = k) := by rw [Hnd.out]; exact hik
  rw [HP.out] at cN2
  have hbn := (Array.getElem?_eq_some_iff.1 HN.out).1
  have hsx : w.heap.size < w2.heap.size := by omega
  obtain ⟨w3, HW3⟩ := hid_ex (w2.alloc (.cells #[.pointer (some ⟨g 0, 0, none⟩), .pointer (some ⟨g 1, 0, none⟩), .pointer (some ⟨g 2, 0, none⟩), .pointer (some ⟨g 3, 0, none⟩), .pointer (some ⟨g 4, 0, none⟩), .pointer (some ⟨g 5, 0, none⟩), .pointer (some ⟨g 6, 0, none⟩), .pointer (some ⟨g 7, 0, none⟩)] 52))
  have hal3 : Below w2.heap.size w2 w3 := by rw [HW3.out]; exact (Below.refl _ _).alloc (Nat.le_refl _) _
  have HB3 : Hid (Below w.heap.size w w3) := HB2.out.trans (hal3.mono HB2.out.size)
  have HX3 : Hid (w3.heap[w.heap.size]? = some (.cells #[.slice ak k.length ck, .int .u64 a.c, .bool a.o, .int .i64 (hi a.s), .int .u64 (lo a.s), .int .i64 a.mn, .int .i64 a.mx] 36)) := (hal3.block _ hsx).trans HX2.out
  have HN3 : Hid (w3.heap[nd.b]? = some (.cells (ndc nd.kv nd.a (nxFS N (i + 1))) 55)) := (HB3.out.block _ hbn).trans HN.out
  have HCK : Hid (w3.cell? ⟨nd.b, 0, none⟩ = some nd.kv) := by unfold Hid; simp [World.cell?, show w3.heap[nd.b]? = _ from HN3.out, ndc]
  clear hb2 cN HX1 hik hal3
  go_wp2_with fail
  rw [← HW3.out]
  clear cN2 cx0 HX2 HB2 HW3
  refine (has_some nd.b nd.kv nd.k _ k _ HCK.out (HKY.out.below HB3.out) (HR.out.below HB3.out)).mono ?_
  rintro e w4 ⟨rfl, hw4⟩
  subst w4
  rw [decide_eq_true HIK.out]
  obtain ⟨a1, p1⟩ := cell_row HN3.out 1 (by simp [ndc])
  obtain ⟨a2, p2⟩ := cell_row HN3.out 2 (by simp [ndc])
  obtain ⟨a3, p3⟩ := cell_row HN3.out 3 (by simp [ndc])
  obtain ⟨a4, p4⟩ := cell_row HN3.out 4 (by simp [ndc])
  obtain ⟨a5, p5⟩ := cell_row HN3.out 5 (by simp [ndc])
  obtain ⟨a6, p6⟩ := cell_row HN3.out 6 (by simp [ndc])
  simp only [ndc, List.getElem_toArray, List.getElem_cons_succ, List.getElem_cons_zero] at a1 a2 a3 a4 a5 a6
  obtain ⟨b1, _⟩ := cell_row HX3.out 1 (by simp)
  obtain ⟨b2, _⟩ := cell_row HX3.out 2 (by simp)
  obtain ⟨b3, _⟩ := cell_row HX3.out 3 (by simp)
  obtain ⟨b4, _⟩ := cell_row HX3.out 4 (by simp)
  obtain ⟨b5, _⟩ := cell_row HX3.out 5 (by simp)
  obtain ⟨b6, _⟩ := cell_row HX3.out 6 (by simp)
  simp only [List.getElem_toArray, List.getElem_cons_succ, List.getElem_cons_zero] at b1 b2 b3 b4 b5 b6
  go_wp2_with fail
  refine wp_region_noPanic ?_
  refine wp_region_held_drew (S := (fun w' => Below base w w')) (by kernel_rfl) ?_ (fun hHeld => ?_)
  · exact (HB3.out.mono hbase).drew
  refine tk (i := 0) (v := .pointer (some ⟨nd.b, 0, none⟩)) rfl ?_ ?_
  · intro w1 hSw; go_simp
  simp only [za, zc, Act.put, zd, ze, zf]
  refine tk (i := 1) (v := .pointer (some ⟨nd.b, 0, none⟩)) rfl ?_ ?_
  · intro w1 hSw; go_simp
  simp only [za, zb, zc, Act.put, zd, ze, zf]
  refine tk (i := 2) (v := .pointer (some ⟨nd.b, 0, none⟩)) rfl ?_ ?_
  · intro w1 hSw; go_simp
  simp only [za, zb, zc, Act.put, zd, ze, zf]
  refine tk (i := 3) (v := .pointer (some ⟨nd.b, 0, none⟩)) rfl ?_ ?_
  · intro w1 hSw; go_simp
  simp only [za, zb, zc, Act.put, zd, ze, zf]
  refine tk (i := 4) (v := .pointer (some ⟨nd.b, 1, none⟩)) rfl ?_ ?_
  · intro w1 hSw; go_simp
  simp only [za, zb, zc, Act.put, zd, ze, zf]
  refine tk (i := 6) (v := .pointer (some ⟨w.heap.size, 1, none⟩)) rfl ?_ ?_
  · intro w1 hSw; go_simp
  simp only [za, zb, zc, Act.put, zd, ze, zf]
  refine wpAnyH_ready (rs := [5, 7]) (by kernel_rfl) (by simp) ?_
  refine AllReadyH.cons (o := _) rfl (fun K hK => ?_) (AllReadyH.cons (o := _) rfl (fun K hK => ?_) AllReadyH.nil)
  · go_simp
    refine hK.out _ _ ?_ (fun hHeld => ?_)
    · exact hHeld
    clear hK K
    refine wpAnyH_ready (rs := [7]) (by kernel_rfl) (by simp) ?_
    refine AllReadyH.cons (o := _) rfl (fun K hK => ?_) AllReadyH.nil
    go_simp
    refine hK.out _ _ ?_ (fun hHeld => ?_)
    · exact hHeld
    clear hK K
    refine wpAnyH_ready (rs := [8]) (by kernel_rfl) (by simp) ?_
    refine AllReadyH.cons (o := _) rfl (fun K hK => ?_) AllReadyH.nil
    go_simp
    refine (merge_any nd.a a HAG.out.1 HAG.out.2 ha.1 ha.2 w3.drew).mono ?_
    rintro e w5 ⟨rfl, hb5⟩
    have HB5' : Hid (Below w3.heap.size w3 w5) := (Below.refl w3.heap.size w3).drew.trans hb5
    have HB5 : Hid (Below base w w5) := (HB3.out.mono hbase).trans (HB5'.out.mono (Nat.le_trans hbase HB3.out.size))
    clear hb5
    refine hK.out _ _ ?_ (fun hHeld => ?_)
    · exact HB5.out
    clear hK K
    refine tk (i := 9) (v := .pointer (some ⟨nd.b, 0, none⟩)) rfl ?_ ?_
    · intro w1 hSw; go_simp
    simp only [za, zb, zc, Act.put, zd, ze, zf]
    refine tk (i := 10) (v := .pointer (some ⟨nd.b, 0, none⟩)) rfl ?_ ?_
    · intro w1 hSw; go_simp
    simp only [za, zb, zc, Act.put, zd, ze, zf]
    refine tk (i := 11) (v := .pointer (some ⟨nd.b, 1, none⟩)) rfl ?_ ?_
    · intro w1 hSw; go_simp
    simp only [za, zb, zc, Act.put, zd, ze, zf]
    have HN5 : Hid (w5.heap[nd.b]? = some (.cells (ndc nd.kv nd.a (nxFS N (i + 1))) 55)) := (HB5'.out.block _ (Array.getElem?_eq_some_iff.1 HN3.out).1).trans HN3.out
    obtain ⟨m, Hm⟩ := hid_ex (mrg nd.a a)
    rw [← Hm.out]
    obtain ⟨a1, p1⟩ := cell_row HN5.out 1 (by simp [ndc])
    obtain ⟨a2, p2⟩ := cell_row HN5.out 2 (by simp [ndc])
    obtain ⟨a3, p3⟩ := cell_row HN5.out 3 (by simp [ndc])
    obtain ⟨a4, p4⟩ := cell_row HN5.out 4 (by simp [ndc])
    obtain ⟨a5, p5⟩ := cell_row HN5.out 5 (by simp [ndc])
    obtain ⟨a6, p6⟩ := cell_row HN5.out 6 (by simp [ndc])
    simp only [ndc, List.getElem_toArray, List.getElem_cons_succ, List.getElem_cons_zero] at a1 a2 a3 a4 a5 a6
    have HBE : Hid (Below base w (setA w5 nd.b m)) := setA_below m HB5.out (by rw [Hnd.out]; exact HS.out.1.bs _ (List.getElem_mem hil))
    have HSE : Hid (SLm (setA w5 nd.b m) base L0 (N.set i { N[i] with a := mrg N[i].a a }) (nxFS N) N.length sz fr) := by
      have hs5 : SLm w5 base L0 N (nxFS N) N.length sz fr := (HS.out.below (HB3.out.trans (HB5'.out.mono HB3.out.size))).1
      have := hs5.setAgg hil m
      rw [Hm.out, Hnd.out] at this ⊢
      exact this
    have HKT : Hid (Kt w (setA w5 nd.b m)) := setA_kt m (Kt.of_below (HB3.out.trans (HB5'.out.mono HB3.out.size))) HN5.out
    unfold setA at HBE HSE HKT
    refine wpAnyH_ready (rs := [12]) (by kernel_rfl) (by simp) ?_
    refine AllReadyH.cons (o := _) rfl (fun K hK => ?_) AllReadyH.nil
    go_simp
    refine hK.out _ _ ?_ (fun hHeld => ?_)
    · exact HBE.out
    clear hK K
    clear hHeld
    refine wpAnyH_done (by kernel_rfl) ?_ _
    refine NoPanic.normal ?_
    go_wp2_with fail
    go_ret
    exact ⟨rfl, HSE.out, HBE.out, HKT.out⟩
  · go_simp
    refine hK.out _ _ ?_ (fun hHeld => ?_)
    · exact hHeld
    clear hK K
    refine wpAnyH_ready (rs := [5]) (by kernel_rfl) (by simp) ?_
    refine AllReadyH.cons (o := _) rfl (fun K hK => ?_) AllReadyH.nil
    go_simp
    refine hK.out _ _ ?_ (fun hHeld => ?_)
    · exact hHeld
    clear hK K
    refine wpAnyH_ready (rs := [8]) (by kernel_rfl) (by simp) ?_
    refine AllReadyH.cons (o := _) rfl (fun K hK => ?_) AllReadyH.nil
    go_simp
    refine (merge_any nd.a a HAG.out.1 HAG.out.2 ha.1 ha.2 w3.drew).mono ?_
    rintro e w5 ⟨rfl, hb5⟩
    have HB5' : Hid (Below w3.heap.size w3 w5) := (Below.refl w3.heap.size w3).drew.trans hb5
    have HB5 : Hid (Below base w w5) := (HB3.out.mono hbase).trans (HB5'.out.mono (Nat.le_trans hbase HB3.out.size))
    clear hb5
    refine hK.out _ _ ?_ (fun hHeld => ?_)
    · exact HB5.out
    clear hK K
    refine tk (i := 9) (v := .pointer (some ⟨nd.b, 0, none⟩)) rfl ?_ ?_
    · intro w1 hSw; go_simp
    simp only [za, zb, zc, Act.put, zd, ze, zf]
    refine tk (i := 10) (v := .pointer (some ⟨nd.b, 0, none⟩)) rfl ?_ ?_
    · intro w1 hSw; go_simp
    simp only [za, zb, zc, Act.put, zd, ze, zf]
    refine tk (i := 11) (v := .pointer (some ⟨nd.b, 1, none⟩)) rfl ?_ ?_
    · intro w1 hSw; go_simp
    simp only [za, zb, zc, Act.put, zd, ze, zf]
    have HN5 : Hid (w5.heap[nd.b]? = some (.cells (ndc nd.kv nd.a (nxFS N (i + 1))) 55)) := (HB5'.out.block _ (Array.getElem?_eq_some_iff.1 HN3.out).1).trans HN3.out
    obtain ⟨m, Hm⟩ := hid_ex (mrg nd.a a)
    rw [← Hm.out]
    obtain ⟨a1, p1⟩ := cell_row HN5.out 1 (by simp [ndc])
    obtain ⟨a2, p2⟩ := cell_row HN5.out 2 (by simp [ndc])
    obtain ⟨a3, p3⟩ := cell_row HN5.out 3 (by simp [ndc])
    obtain ⟨a4, p4⟩ := cell_row HN5.out 4 (by simp [ndc])
    obtain ⟨a5, p5⟩ := cell_row HN5.out 5 (by simp [ndc])
    obtain ⟨a6, p6⟩ := cell_row HN5.out 6 (by simp [ndc])
    simp only [ndc, List.getElem_toArray, List.getElem_cons_succ, List.getElem_cons_zero] at a1 a2 a3 a4 a5 a6
    have HBE : Hid (Below base w (setA w5 nd.b m)) := setA_below m HB5.out (by rw [Hnd.out]; exact HS.out.1.bs _ (List.getElem_mem hil))
    have HSE : Hid (SLm (setA w5 nd.b m) base L0 (N.set i { N[i] with a := mrg N[i].a a }) (nxFS N) N.length sz fr) := by
      have hs5 : SLm w5 base L0 N (nxFS N) N.length sz fr := (HS.out.below (HB3.out.trans (HB5'.out.mono HB3.out.size))).1
      have := hs5.setAgg hil m
      rw [Hm.out, Hnd.out] at this ⊢
      exact this
    have HKT : Hid (Kt w (setA w5 nd.b m)) := setA_kt m (Kt.of_below (HB3.out.trans (HB5'.out.mono HB3.out.size))) HN5.out
    unfold setA at HBE HSE HKT
    refine wpAnyH_ready (rs := [12]) (by kernel_rfl) (by simp) ?_
    refine AllReadyH.cons (o := _) rfl (fun K hK => ?_) AllReadyH.nil
    go_simp
    refine hK.out _ _ ?_ (fun hHeld => ?_)
    · exact HBE.out
    clear hK K
    clear hHeld
    refine wpAnyH_done (by kernel_rfl) ?_ _
    refine NoPanic.normal ?_
    go_wp2_with fail
    go_ret
    exact ⟨rfl, HSE.out, HBE.out, HKT.out⟩
end Go.Proofs.Ytopemhlkjicjpaa

/- The contract of Put, where an entry is put. -/
namespace Go.Proofs.Ytopemhlkjicjpaa
open Go.RowKit

theorem mpF_ok {fr : Bool} {h : Int} {n : Nat} {a : Ag} (hok : mpF fr h n a = 0) : 1 ≤ h ∧ h ≤ 8 ∧ fr = false ∧ 1 ≤ n ∧ n ≤ 256 ∧ a.c ≠ 0 ∧ rightB a = true := by
  unfold mpF at hok
  split at hok
  · simp at hok
  · split at hok
    · simp at hok
    · split at hok
      · simp at hok
      · split at hok
        · simp at hok
        · rename_i h1 h2 h3 h4
          refine ⟨by omega, by omega, by simpa using h2, by omega, by omega, fun e => h4 (.inl e), ?_⟩
          cases hr : rightB a
          · exact absurd (.inr hr) h4
          · rfl
theorem SLm.far {w : World} {base L0 : Nat} {N : List Nd} {F : Nat → Nat → Value} {n sz : Int} {fr : Bool} (h : SLm w base L0 N F n sz fr) {c j : Nat} {cs : Array Value} {T : TypeId} (hc : w.heap[c]? = some (.cells cs T)) (hT : T ≠ 5) (hne : ∀ p, p ≤ N.length → blk L0 N p ≠ c) (v : Value) : SLm (w.setCell ⟨c, j, none⟩ v) base L0 N F n sz fr := by
  refine ⟨?_, fun i hi => ?_, fun i hi => own7 c (h.ky i hi) hc hT _ _, h.b0, h.bs, h.ne⟩
  · rw [Below.heap_setCell _ _ _ _ (show L0 ≠ c from hne 0 (Nat.zero_le _))]; exact h.hd
  · rw [Below.heap_setCell _ _ _ _ (show N[i].b ≠ c from by rw [← blk_at (L0 := L0) hi]; exact hne (i + 1) hi)]; exact h.nd i hi
theorem kc_drew (w : World) : Kc w.heap.size w w.drew := Kc.of_below (Below.refl _ _).drew (Nat.le_refl _)
/-- The towers' places while an entry is put: levels below lv are done. -/
def Fi (N : List Nd) (i b lv : Nat) (p k : Nat) : Value := if k < lv ∧ p = bp N k i then .pointer (some ⟨b, 0, none⟩) else nxFS N p k
def fi (N : List Nd) (i lv : Nat) (k : Nat) : Value := if k < lv then nxFS N (bp N k i) k else .pointer none
theorem SLm.inserted {w : World} {base L0 : Nat} {N : List Nd} {n sz : Int} {fr : Bool} {i b hn : Nat} {kv : Value} {k : Ks} {a : Ag} (h : SLm w base L0 N (Fi N i b hn) n sz fr) (hi : i ≤ N.length)
    (hb : w.heap[b]? = some (.cells (ndc kv a (fi N i hn)) 55)) (hO : Own w base kv k) (hne : ∀ p, p ≤ N.length → blk L0 N p ≠ b) (hbb : base ≤ b) : SLm w base L0 (insN N i ⟨b, kv, k, a, hn⟩) (nxFS (insN N i ⟨b, kv, k, a, hn⟩)) n sz fr := by
  have hcase : ∀ j (hj : j < (insN N i ⟨b, kv, k, a, hn⟩).length), (∃ hj' : j < i, (insN N i ⟨b, kv, k, a, hn⟩)[j] = N[j]) ∨ (j = i ∧ (insN N i ⟨b, kv, k, a, hn⟩)[j] = ⟨b, kv, k, a, hn⟩) ∨ (∃ j', ∃ hj' : j' < N.length, j = j' + 1 ∧ i ≤ j' ∧ (insN N i ⟨b, kv, k, a, hn⟩)[j] = N[j']) := by
    intro j hj
    have hl := insN_len N i ⟨b, kv, k, a, hn⟩ hi
    rcases Nat.lt_trichotomy j i with h1 | h1 | h1
    · exact .inl ⟨h1, insN_lt h1 hi⟩
    · subst h1; exact .inr (.inl ⟨rfl, insN_eq hi⟩)
    · obtain ⟨j', rfl⟩ : ∃ j', j = j' + 1 := ⟨j - 1, by omega⟩
      exact .inr (.inr ⟨j', by omega, rfl, by omega, insN_gt (by omega) (by omega)⟩)
  refine ⟨?_, fun j hj => ?_, fun j hj => ?_, h.b0, fun x hx => ?_, ?_⟩
  · rw [h.hd]; congr 2
    exact hdc_congr (fun k' hk' => by rw [nxF_ins_le hi hk' (Nat.zero_le _)]; rfl)
  · rcases hcase j hj with ⟨hj', e⟩ | ⟨rfl, e⟩ | ⟨j', hj', rfl, hij, e⟩
    · rw [e, h.nd j (by omega)]; congr 2
      exact ndc_congr (fun k' hk' => by rw [nxF_ins_le hi hk' (by omega)]; rfl)
    · rw [e, hb, ndc_congr (f := fi N j hn) (g := nxFS (insN N j ⟨b, kv, k, a, hn⟩) (j + 1)) (fun k' hk' => by
        rw [nxF_ins_new hi]
        unfold fi
        by_cases e9 : k' < hn
        · rw [if_pos e9, if_pos e9, nxF_bp hi hk']
        · rw [if_neg e9, if_neg e9])]
    · rw [e, h.nd j' hj']; congr 2
      exact ndc_congr (fun k' hk' => by
        rw [nxF_ins_gt hi (by omega) (by omega)]
        unfold Fi
        rw [if_neg (fun hh => by have := bp_le N k' i; omega)])
  · rcases hcase j hj with ⟨hj', e⟩ | ⟨rfl, e⟩ | ⟨j', hj', rfl, hij, e⟩
    · rw [e]; exact h.ky j (by omega)
    · rw [e]; exact hO
    · rw [e]; exact h.ky j' hj'
  · obtain ⟨j, hj, rfl⟩ := List.mem_iff_getElem.1 hx
    rcases hcase j hj with ⟨hj', e⟩ | ⟨rfl, e⟩ | ⟨j', hj', rfl, hij, e⟩
    · rw [e]; exact h.bs _ (List.getElem_mem _)
    · rw [e]; exact hbb
    · rw [e]; exact h.bs _ (List.getElem_mem _)
  · have hnb : ∀ x ∈ N, x.b ≠ b := by
      intro x hx
      obtain ⟨j, hj, rfl⟩ := List.mem_iff_getElem.1 hx
      rw [← blk_at (L0 := L0) hj]; exact hne (j + 1) hj
    have hnd := h.ne
    rw [← List.take_append_drop i N, List.map_append] at hnd
    unfold insN
    rw [List.map_append, List.map_cons]
    rw [List.nodup_append] at hnd ⊢
    obtain ⟨q1, q2, q3⟩ := hnd
    refine ⟨q1, List.nodup_cons.2 ⟨?_, q2⟩, ?_⟩
    · intro hm
      obtain ⟨x, hx, e⟩ := List.mem_map.1 hm
      exact hnb x (List.mem_of_mem_drop hx) e
    · intro x hx y hy
      rcases List.mem_cons.1 hy with rfl | hy
      · obtain ⟨z, hz, e⟩ := List.mem_map.1 hx
        intro e2
        exact hnb z (List.mem_of_mem_take hz) (e.trans e2)
      · exact q3 x hx y hy
theorem SLm.setCount {w : World} {base L0 : Nat} {N : List Nd} {F : Nat → Nat → Value} {n sz : Int} {fr : Bool} (h : SLm w base L0 N F n sz fr) (n' : Int) : SLm (w.setCell ⟨L0, 15, none⟩ (.int .i64 n')) base L0 N F n' sz fr := by
  have hne : ∀ i (hi : i < N.length), N[i].b ≠ L0 := fun i hi e => by
    have := blk_inj h (p := i + 1) (q := 0) (by omega) (by omega) (by rw [blk_at hi]; exact e)
    omega
  refine ⟨?_, fun i hi => ?_, fun i hi => own7 L0 (h.ky i hi) h.hd (by decide) _ _, h.b0, h.bs, h.ne⟩
  · have := Go.heap_setCell_same w L0 15 _ _ (.int .i64 n') h.hd
    simpa [hdc] using this
  · rw [Below.heap_setCell _ _ _ _ (hne i hi)]; exact h.nd i hi
theorem SLm.setSize {w : World} {base L0 : Nat} {N : List Nd} {F : Nat → Nat → Value} {n sz : Int} {fr : Bool} (h : SLm w base L0 N F n sz fr) (sz' : Int) : SLm (w.setCell ⟨L0, 16, none⟩ (.int .i64 sz')) base L0 N F n sz' fr := by
  have hne : ∀ i (hi : i < N.length), N[i].b ≠ L0 := fun i hi e => by
    have := blk_inj h (p := i + 1) (q := 0) (by omega) (by omega) (by rw [blk_at hi]; exact e)
    omega
  refine ⟨?_, fun i hi => ?_, fun i hi => own7 L0 (h.ky i hi) h.hd (by decide) _ _, h.b0, h.bs, h.ne⟩
  · have := Go.heap_setCell_same w L0 16 _ _ (.int .i64 sz') h.hd
    simpa [hdc] using this
  · rw [Below.heap_setCell _ _ _ _ (hne i hi)]; exact h.nd i hi
theorem Fi_succ (N : List Nd) (i b m : Nat) : (fun q j => if q = bp N m i ∧ j = m then (.pointer (some ⟨b, 0, none⟩) : Value) else Fi N i b m q j) = Fi N i b (m + 1) := by
  funext q j
  unfold Fi
  by_cases e : j = m
  · subst e
    by_cases e2 : q = bp N j i
    · rw [if_pos ⟨e2, rfl⟩, if_pos ⟨by omega, e2⟩]
    · rw [if_neg (fun h => e2 h.1), if_neg (fun h => e2 h.2), if_neg (fun h => e2 h.2)]
  · rw [if_neg (fun h => e h.2)]
    by_cases e2 : j < m ∧ q = bp N j i
    · rw [if_pos e2, if_pos ⟨by omega, e2.2⟩]
    · rw [if_neg e2, if_neg (fun h => e2 ⟨by omega, h.2⟩)]
theorem fi_succ (N : List Nd) (i m : Nat) : (fun j => if j = m then nxFS N (bp N m i) m else fi N i m j) = fi N i (m + 1) := by
  funext j
  unfold fi
  by_cases e : j = m
  · subst e; rw [if_pos rfl, if_pos (by omega)]
  · rw [if_neg e]
    by_cases e2 : j < m
    · rw [if_pos e2, if_pos (by omega)]
    · rw [if_neg e2, if_neg (by omega)]
set_option maxRecDepth 100000 in
set_option maxHeartbeats 1000000 in
theorem put_new (L0 : Nat) (N : List Nd) (sz : Int) (fr : Bool) (kv : Value) (k : Ks) (a : Ag) (h : Int) (w : World) (base : Nat) (hbase : base ≤ w.heap.size) (hS : SL w base L0 N sz fr) (hR : Reads w kv k) (hok : mpF fr h k.length a = 0) (i : Nat) (hil : i ≤ N.length) (hip : i = plK (N.map Nd.k) k) (pn : Option Addr) (hpn : nxFS N i 0 = .pointer pn) (hhas : ∀ w', Below w.heap.size w w' → Calls Try.prog 23 #[.pointer pn, kv] w' fun e w'' => e = .returned (.bool false) ∧ w'' = w') (hfull : N.length ≠ 4096) (hsz : 0 ≤ sz ∧ sz ≤ 100000000) :
    Calls Try.prog 7 #[.pointer (some ⟨L0, 0, none⟩), env kv a, .int .i64 h] w fun e w' => e = .returned (.int .i64 0) ∧ (∃ b kv', SLm w' base L0 (insN N i ⟨b, kv', k, a, h.toNat⟩) (nxFS (insN N i ⟨b, kv', k, a, h.toNat⟩)) ((N.length : Int) + 1) (sz + k.length + 41) fr ∧ ∀ g, kv'.ownBlock = some g → w.heap.size ≤ g) ∧ Below base w w' ∧ Kt w w' := by
  obtain ⟨mh1, mh2, _, mn1, mn2, _, _⟩ := mpF_ok hok
  obtain ⟨hn, rfl⟩ : ∃ hn : Nat, h = (hn : Int) := ⟨h.toNat, by omega⟩
  rw [Int.toNat_natCast]
  obtain ⟨cf, _, _, hL⟩ := hS.frozen
  have HS : Hid (SL w base L0 N sz fr) := hS
  have HR : Hid (Reads w kv k) := hR
  obtain ⟨ak, ck, rfl, _⟩ := hR.form
  have HB0 : Hid (Below w.heap.size w (w.alloc (.cells #[.slice ak k.length ck, .int .u64 a.c, .bool a.o, .int .i64 (hi a.s), .int .u64 (lo a.s), .int .i64 a.mn, .int .i64 a.mx] 36))) := (Below.refl _ _).alloc (Nat.le_refl _) _
  have HM : Hid _ := mayPut_any L0 fr _ k a (hn : Int) _ (by simp; omega) ((HB0.out.cell (p := ⟨L0, 17, none⟩) hL).trans cf) (HR.out.below HB0.out)
  unfold env at HM ⊢
  rw [hok] at HM
  obtain ⟨w0, HW0⟩ := hid_ex (w.alloc (.cells #[.slice ak k.length ck, .int .u64 a.c, .bool a.o, .int .i64 (hi a.s), .int .u64 (lo a.s), .int .i64 a.mn, .int .i64 a.mx] 36))
  have HX0 : Hid (w0.heap[w.heap.size]? = some (.cells #[.slice ak k.length ck, .int .u64 a.c, .bool a.o, .int .i64 (hi a.s), .int .u64 (lo a.s), .int .i64 a.mn, .int .i64 a.mx] 36)) := by rw [HW0.out]; exact World.alloc_heap_new _ _
  have hs0 : w0.heap.size = w.heap.size + 1 := by rw [HW0.out]; simp
  rw [← HW0.out] at HB0 HM
  have HIP : Hid (i = plK (N.map Nd.k) k) := hip
  have HPN : Hid (nxFS N i 0 = .pointer pn) := hpn
  have HHAS : Hid _ := hhas
  obtain ⟨_, cc, cs, _⟩ := hS.frozen
  have HCC : Hid _ := cc
  have HCS : Hid _ := cs
  clear hS hR cf hip hpn hhas cc cs
  go_enter Try.func7, Try.ntmps7
  go_wp2_with fail
  rw [← HW0.out]
  refine Calls.mono HM.out ?_
  rintro e w1 ⟨rfl, hb1⟩
  have HB1 : Hid (Below w.heap.size w w1) := HB0.out.trans (hb1.mono HB0.out.size)
  have HX1 : Hid (w1.heap[w.heap.size]? = some (.cells #[.slice ak k.length ck, .int .u64 a.c, .bool a.o, .int .i64 (hi a.s), .int .u64 (lo a.s), .int .i64 a.mn, .int .i64 a.mx] 36)) := (hb1.block _ (by omega)).trans HX0.out
  have hs1 : w.heap.size + 1 ≤ w1.heap.size := by have := hb1.size; omega
  obtain ⟨cx0, _⟩ := cell_row HX1.out 0 (by simp)
  simp only [List.getElem_toArray, List.getElem_cons_zero] at cx0
  clear hb1 HM HX0 HB0
  go_wp2_with fail
  refine (before_any L0 N sz fr _ k w1 base (HS.out.below HB1.out) (HR.out.below HB1.out)).mono ?_
  rintro e w2 ⟨rfl, hb2⟩
  rw [← HIP.out]
  have HB2 : Hid (Below w.heap.size w w2) := HB1.out.trans (hb2.mono HB1.out.size)
  have HX2 : Hid (w2.heap[w.heap.size]? = some (.cells #[.slice ak k.length ck, .int .u64 a.c, .bool a.o, .int .i64 (hi a.s), .int .u64 (lo a.s), .int .i64 a.mn, .int .i64 a.mx] 36)) := (hb2.block _ (by omega)).trans HX1.out
  have hs2 : w.heap.size + 1 ≤ w2.heap.size := by have := hb2.size; omega
  obtain ⟨g, Hg⟩ := hid_ex (fun j => blk L0 N (bp N j i))
  have HEG : Hid ((fun j => (.pointer (some ⟨blk L0 N (bp N j i), 0, none⟩) : Value)) = fun j => .pointer (some ⟨g j, 0, none⟩)) := by rw [Hg.out]; rfl
  have HG0 : Hid (g 0 = blk L0 N i) := by rw [Hg.out]; unfold Hid; dsimp only; rw [bp_zero HS.out.2.ht (by omega)]
  rw [HEG.out]
  unfold ar8
  dsimp only
  obtain ⟨cN, _, hbl⟩ := HS.out.1.blk_hd (p := i) (by omega) (k := 0) (by decide)
  have cN2 := (HB2.out.cell (p := ⟨blk L0 N i, 7 + 0, none⟩) hbl).trans cN
  rw [← HG0.out] at cN2 hbl
  have hbl2 : g 0 < w2.heap.size := by have := HB2.out.size; omega
  obtain ⟨cx0, _⟩ := cell_row HX2.out 0 (by simp)
  simp only [List.getElem_toArray, List.getElem_cons_zero] at cx0
  rw [HPN.out] at cN2
  have hsx : w.heap.size < w2.heap.size := by omega
  obtain ⟨w3, HW3⟩ := hid_ex (w2.alloc (.cells #[.pointer (some ⟨g 0, 0, none⟩), .pointer (some ⟨g 1, 0, none⟩), .pointer (some ⟨g 2, 0, none⟩), .pointer (some ⟨g 3, 0, none⟩), .pointer (some ⟨g 4, 0, none⟩), .pointer (some ⟨g 5, 0, none⟩), .pointer (some ⟨g 6, 0, none⟩), .pointer (some ⟨g 7, 0, none⟩)] 52))
  have hal3 : Below w2.heap.size w2 w3 := by rw [HW3.out]; exact (Below.refl _ _).alloc (Nat.le_refl _) _
  have HB3 : Hid (Below w.heap.size w w3) := HB2.out.trans (hal3.mono HB2.out.size)
  have HX3 : Hid (w3.heap[w.heap.size]? = some (.cells #[.slice ak k.length ck, .int .u64 a.c, .bool a.o, .int .i64 (hi a.s), .int .u64 (lo a.s), .int .i64 a.mn, .int .i64 a.mx] 36)) := (hal3.block _ hsx).trans HX2.out
  have HAR3 : Hid (ArB w3 w2.heap.size fun j => .pointer (some ⟨g j, 0, none⟩)) := by rw [HW3.out]; exact World.alloc_heap_new _ _
  have hs3 : w2.heap.size < w3.heap.size := by rw [HW3.out]; simp
  clear hb2 cN HX1 hal3
  go_wp2_with fail
  rw [← HW3.out]
  clear cN2 cx0 HX2 HB2 HW3
  refine (HHAS.out _ HB3.out).mono ?_
  rintro e w4 ⟨rfl, hw4⟩
  subst w4
  have cc3 := (HB3.out.cell (p := ⟨L0, 15, none⟩) hL).trans HCC.out
  have hnf : ¬ (N.length : Int) = 4096 := by omega
  obtain ⟨b0, _⟩ := cell_row HX3.out 0 (by simp)
  obtain ⟨b1, _⟩ := cell_row HX3.out 1 (by simp)
  obtain ⟨b2, _⟩ := cell_row HX3.out 2 (by simp)
  obtain ⟨b3, _⟩ := cell_row HX3.out 3 (by simp)
  obtain ⟨b4, _⟩ := cell_row HX3.out 4 (by simp)
  obtain ⟨b5, _⟩ := cell_row HX3.out 5 (by simp)
  obtain ⟨b6, _⟩ := cell_row HX3.out 6 (by simp)
  simp only [List.getElem_toArray, List.getElem_cons_succ, List.getElem_cons_zero] at b0 b1 b2 b3 b4 b5 b6
  go_wp2_with fail
  refine (copied_any _ k a _ (HR.out.below HB3.out) (by omega) (by omega)).mono ?_
  rintro e w5 ⟨kv5, rfl, ho5, hb5⟩
  unfold env
  have HO5 : Hid (Own w5 base kv5 k) := ho5.mono (Nat.le_trans hbase HB3.out.size)
  obtain ⟨a5, c5, rfl, _⟩ := ho5.form
  have HBK : Hid (∀ g, (Value.slice a5 k.length c5).ownBlock = some g → w.heap.size ≤ g) := fun g hg => Nat.le_trans HB3.out.size (World.ownsRow.lt ho5 g hg).1
  have HB5 : Hid (Below w.heap.size w w5) := HB3.out.trans (hb5.mono HB3.out.size)
  have HAR5 : Hid (ArB w5 w2.heap.size fun j => .pointer (some ⟨g j, 0, none⟩)) := (hb5.block _ hs3).trans HAR3.out
  have hs5 : w2.heap.size < w5.heap.size := by have := hb5.size; omega
  have HX5 : Hid (w5.heap[w.heap.size]? = some (.cells #[.slice ak k.length ck, .int .u64 a.c, .bool a.o, .int .i64 (hi a.s), .int .u64 (lo a.s), .int .i64 a.mn, .int .i64 a.mx] 36)) := (hb5.block _ (by omega)).trans HX3.out
  obtain ⟨b, Hb⟩ := hid_ex w5.heap.size
  obtain ⟨w6, HW6⟩ := hid_ex (w5.alloc (.cells #[.slice a5 k.length c5, .int .u64 a.c, .bool a.o, .int .i64 (hi a.s), .int .u64 (lo a.s), .int .i64 a.mn, .int .i64 a.mx, .pointer none, .pointer none, .pointer none, .pointer none, .pointer none, .pointer none, .pointer none, .pointer none] 55))
  have hal6 : Below w5.heap.size w5 w6 := by rw [HW6.out]; exact (Below.refl _ _).alloc (Nat.le_refl _) _
  have HB6 : Hid (Below w.heap.size w w6) := HB5.out.trans (hal6.mono HB5.out.size)
  have HO6 : Hid (Own w6 base (.slice a5 k.length c5) k) := by rw [HW6.out]; exact HO5.out.alloc _
  have HAR6 : Hid (ArB w6 w2.heap.size fun j => .pointer (some ⟨g j, 0, none⟩)) := (hal6.block _ hs5).trans HAR5.out
  have HX6 : Hid (w6.heap[w.heap.size]? = some (.cells #[.slice ak k.length ck, .int .u64 a.c, .bool a.o, .int .i64 (hi a.s), .int .u64 (lo a.s), .int .i64 a.mn, .int .i64 a.mx] 36)) := (hal6.block _ (by omega)).trans HX5.out
  have HN6 : Hid (w6.heap[b]? = some (.cells (ndc (.slice a5 k.length c5) a (fi N i 0)) 55)) := by
    rw [HW6.out, Hb.out]
    refine (World.alloc_heap_new _ _).trans ?_
    rw [ndc_congr (g := fun _ => .pointer none) (fun j _ => by simp [fi])]
    rfl
  have HS6 : Hid (SLm w6 base L0 N (Fi N i b 0) N.length sz fr) := by
    have := (HS.out.below HB6.out).1
    have e : Fi N i b 0 = nxFS N := by funext p j; simp [Fi]
    rw [e]; exact this
  have hbb : w2.heap.size < b := by rw [Hb.out]; exact hs5
  have hbL : L0 < b := by rw [Hb.out]; have := HB5.out.size; omega
  have hbbase : base ≤ b := by rw [Hb.out]; exact Nat.le_trans hbase HB5.out.size
  have HBL : Hid (∀ p, p ≤ N.length → blk L0 N p ≠ b ∧ blk L0 N p ≠ w2.heap.size ∧ base ≤ blk L0 N p ∧ blk L0 N p < w.heap.size) := by
    intro p hp
    have h1 := (HS.out.1.blk_hd hp (k := 0) (by decide)).2.2
    refine ⟨by rw [Hb.out]; have := HB5.out.size; omega, by omega, ?_, h1⟩
    cases p with
    | zero => exact HS.out.1.b0
    | succ p => rw [blk_at (by omega)]; exact HS.out.1.bs _ (List.getElem_mem _)
  have HGJ : Hid (∀ j, g j = blk L0 N (bp N j i)) := fun j => by rw [Hg.out]
  clear ho5 hb5 hal6 HO5 HAR5 HX3 HAR3 HX5 HEG HG0
  go_wp2_with fail
  rw [← HW6.out, ← Hb.out]
  clear cc3 b0 b1 b2 b3 b4 b5 b6 HW6
  go_loopw [55] (fun c wr => ∃ m : Nat, m ≤ hn ∧ c = .int .i64 (m : Int) ∧ Hid (SLm wr base L0 N (Fi N i b m) N.length sz fr) ∧ Hid (wr.heap[b]? = some (.cells (ndc (.slice a5 k.length c5) a (fi N i m)) 55)) ∧ Hid (Own wr base (.slice a5 k.length c5) k) ∧ Hid (ArB wr w2.heap.size fun j => .pointer (some ⟨g j, 0, none⟩)) ∧ Hid (wr.heap[w.heap.size]? = some (.cells #[.slice ak k.length ck, .int .u64 a.c, .bool a.o, .int .i64 (hi a.s), .int .u64 (lo a.s), .int .i64 a.mn, .int .i64 a.mx] 36)) ∧ Hid (Below base w wr) ∧ Hid (Kt w wr)) (fun c _ => hn - (intOf c).toNat)
  case atStart => exact ⟨0, by omega, rfl, HS6, HN6, HO6, HAR6, HX6, HB6.out.mono hbase, Kt.of_below HB6.out⟩
  case round =>
    clear HS6 HN6 HO6 HAR6 HX6 HB6
    obtain ⟨m, hm, rfl, HSm, HN, HO, HAR, HX, HB, HKt⟩ := hrel
    by_cases hlt : m < hn
    · obtain ⟨c1, _⟩ := HAR.out.cell (k := m) (by omega)
      obtain ⟨gm, Hgm⟩ := hid_ex (g m)
      rw [← Hgm.out] at c1
      have HGM : Hid (gm = blk L0 N (bp N m i)) := by rw [Hgm.out]; exact HGJ.out m
      have hbpN : bp N m i ≤ N.length := Nat.le_trans (bp_le N m i) hil
      obtain ⟨hgb, hg2, hgbase, hgw⟩ := HBL.out _ hbpN
      obtain ⟨c2, f2, hgl⟩ := HSm.out.blk_hd (p := bp N m i) hbpN (k := m) (by omega)
      have e2 : Fi N i b m (bp N m i) m = nxFS N (bp N m i) m := by unfold Fi; rw [if_neg (by omega)]
      obtain ⟨q, hq⟩ : ∃ q, nxFS N (bp N m i) m = .pointer q := by unfold nxFS nxt; split <;> exact ⟨_, rfl⟩
      rw [e2, hq] at c2
      rw [← HGM.out] at c2 f2 hgl hgb hg2 hgbase hgw
      have c3 : wr.cell? ⟨b, 7 + m, none⟩ = some (.pointer none) ∧ wr.frozen? ⟨b, 7 + m, none⟩ = false := by
        have hm8 : m < 8 := by omega
        have hff : fi N i m m = .pointer none := by unfold fi; rw [if_neg (by omega)]
        refine ⟨?_, by simp [World.frozen?, show wr.heap[b]? = _ from HN.out]⟩
        match m, hm8, hff with
        | 0, _, hff | 1, _, hff | 2, _, hff | 3, _, hff | 4, _, hff | 5, _, hff | 6, _, hff | 7, _, hff => simp [World.cell?, show wr.heap[b]? = _ from HN.out, ndc, hff]
      obtain ⟨c3, f3⟩ := c3
      have HQ : Hid (nxFS N (bp N m i) m = .pointer q) := hq
      clear e2 hq
      have q1 : ((m : Int)).toNat = m := by omega
      have HN7 : Hid ((wr.setCell ⟨b, 7 + m, none⟩ (.pointer q)).drew.heap[b]? = some (.cells (ndc (.slice a5 k.length c5) a (fi N i (m + 1))) 55)) := by
        have := Go.heap_setCell_same wr b (7 + m) _ _ (.pointer q) HN.out
        rw [ndc_set _ _ _ m (by omega), ← HQ.out, fi_succ] at this
        rw [← HQ.out]; exact this
      have HS7 : Hid (SLm (wr.setCell ⟨b, 7 + m, none⟩ (.pointer q)).drew base L0 N (Fi N i b m) N.length sz fr) := (HSm.out.far HN.out (by decide) (fun p hp => (HBL.out p hp).1) _).kc (kc_drew _)
      have HO7 : Hid (Own (wr.setCell ⟨b, 7 + m, none⟩ (.pointer q)).drew base (.slice a5 k.length c5) k) := (own7 b HO.out HN.out (by decide) (7 + m) (.pointer q)).below (Below.refl _ _).drew
      have HAR7 : Hid (ArB (wr.setCell ⟨b, 7 + m, none⟩ (.pointer q)).drew w2.heap.size fun j => .pointer (some ⟨g j, 0, none⟩)) := (Below.heap_setCell wr ⟨b, 7 + m, none⟩ _ w2.heap.size (show w2.heap.size ≠ b by omega)).trans HAR.out
      have HX7 : Hid ((wr.setCell ⟨b, 7 + m, none⟩ (.pointer q)).drew.heap[w.heap.size]? = some (.cells #[.slice ak k.length ck, .int .u64 a.c, .bool a.o, .int .i64 (hi a.s), .int .u64 (lo a.s), .int .i64 a.mn, .int .i64 a.mx] 36)) := (Below.heap_setCell wr ⟨b, 7 + m, none⟩ _ w.heap.size (show w.heap.size ≠ b by omega)).trans HX.out
      have HB7 : Hid (Below base w (wr.setCell ⟨b, 7 + m, none⟩ (.pointer q)).drew) := (HB.out.setCell hbbase _).drew
      have HKt7 : Hid (Kt w (wr.setCell ⟨b, 7 + m, none⟩ (.pointer q)).drew) := fun c cs T fr h1 h2 hc => (HKt.out.set HN.out (.inl rfl) (7 + m) (.pointer q)) c cs T fr h1 h2 hc
      go_wp2_with fail
      go_region
      obtain ⟨w7, HW7⟩ := hid_ex (wr.setCell ⟨b, 7 + m, none⟩ (.pointer q)).drew
      rw [← HW7.out] at HN7 HS7 HO7 HAR7 HX7 HB7 HKt7
      rw [← HW7.out]
      clear HN HSm HO HAR HX HB HKt c1 c2 c3 f2 f3 hgl HW7
      obtain ⟨c1, _⟩ := HAR7.out.cell (k := m) (by omega)
      rw [← Hgm.out] at c1
      obtain ⟨c2, f2, hgl⟩ := HS7.out.blk_hd (p := bp N m i) hbpN (k := m) (by omega)
      rw [← HGM.out] at c2 f2 hgl
      have HS8 : Hid (SLm (w7.setCell ⟨gm, 7 + m, none⟩ (.pointer (some ⟨b, 0, none⟩))) base L0 N (Fi N i b (m + 1)) N.length sz fr) := by
        have := HS7.out.setNext hbpN (show m < 8 by omega) (.pointer (some ⟨b, 0, none⟩))
        rw [← HGM.out, Fi_succ] at this
        exact this
      have hgc : ∃ cs T, w7.heap[gm]? = some (.cells cs T) ∧ T ≠ 5 ∧ (T = 55 ∨ T = 57) := by
        rw [HGM.out]
        cases hbp : bp N m i with
        | zero => exact ⟨_, _, HS7.out.hd, by decide, .inr rfl⟩
        | succ p => rw [blk_at (by omega)]; exact ⟨_, _, HS7.out.nd p (by omega), by decide, .inl rfl⟩
      obtain ⟨gcs, gT, hgc, hgT, hgK⟩ := hgc
      have HKt8 : Hid (Kt w (w7.setCell ⟨gm, 7 + m, none⟩ (.pointer (some ⟨b, 0, none⟩)))) := HKt7.out.set hgc hgK _ _
      have HN8 : Hid ((w7.setCell ⟨gm, 7 + m, none⟩ (.pointer (some ⟨b, 0, none⟩))).heap[b]? = some (.cells (ndc (.slice a5 k.length c5) a (fi N i (m + 1))) 55)) := (Below.heap_setCell w7 ⟨gm, 7 + m, none⟩ _ b (show b ≠ gm by omega)).trans HN7.out
      have HO8 : Hid (Own (w7.setCell ⟨gm, 7 + m, none⟩ (.pointer (some ⟨b, 0, none⟩))) base (.slice a5 k.length c5) k) := own7 gm HO7.out hgc hgT _ _
      have HAR8 : Hid (ArB (w7.setCell ⟨gm, 7 + m, none⟩ (.pointer (some ⟨b, 0, none⟩))) w2.heap.size fun j => .pointer (some ⟨g j, 0, none⟩)) := (Below.heap_setCell w7 ⟨gm, 7 + m, none⟩ _ w2.heap.size (show w2.heap.size ≠ gm by omega)).trans HAR7.out
      have HX8 : Hid ((w7.setCell ⟨gm, 7 + m, none⟩ (.pointer (some ⟨b, 0, none⟩))).heap[w.heap.size]? = some (.cells #[.slice ak k.length ck, .int .u64 a.c, .bool a.o, .int .i64 (hi a.s), .int .u64 (lo a.s), .int .i64 a.mn, .int .i64 a.mx] 36)) := (Below.heap_setCell w7 ⟨gm, 7 + m, none⟩ _ w.heap.size (show w.heap.size ≠ gm by omega)).trans HX7.out
      have HB8 : Hid (Below base w (w7.setCell ⟨gm, 7 + m, none⟩ (.pointer (some ⟨b, 0, none⟩)))) := HB7.out.setCell hgbase _
      clear HS7 HN7 HO7 HAR7 HX7 HB7 HKt7 hgc hgK hgT
      go_wp2_with fail
      exact ⟨⟨m + 1, by omega, by go_num, HS8, HN8, HO8, HAR8, HX8, HB8, HKt8⟩, by simp [intOf]; omega⟩
    · have hh := HSm.out.hd
      obtain ⟨d15, f15⟩ := cell_row hh 15 (by simp [hdc])
      obtain ⟨d16, f16⟩ := cell_row hh 16 (by simp [hdc])
      simp only [hdc, List.getElem_toArray, List.getElem_cons_succ, List.getElem_cons_zero] at d15 d16
      obtain ⟨b0, _⟩ := cell_row HX.out 0 (by simp)
      simp only [List.getElem_toArray, List.getElem_cons_zero] at b0
      clear hh
      have hLx : L0 ≠ w.heap.size := by omega
      have hle := HS.out.2.le
      have hme : m = hn := by omega
      have HF9 : Hid (SLm ((wr.setCell ⟨L0, 15, none⟩ (.int .i64 ((N.length : Int) + 1))).setCell ⟨L0, 16, none⟩ (.int .i64 (sz + ((k.length : Int) + 41)))) base L0 (insN N i ⟨b, .slice a5 k.length c5, k, a, hn⟩) (nxFS (insN N i ⟨b, .slice a5 k.length c5, k, a, hn⟩)) ((N.length : Int) + 1) (sz + ((k.length : Int) + 41)) fr) := by
        have h1 := HSm.out
        have h2 := HN.out
        rw [hme] at h1 h2
        exact ((h1.inserted hil h2 HO.out (fun p hp => (HBL.out p hp).1) hbbase).setCount _).setSize _
      have HB9 : Hid (Below base w ((wr.setCell ⟨L0, 15, none⟩ (.int .i64 ((N.length : Int) + 1))).setCell ⟨L0, 16, none⟩ (.int .i64 (sz + ((k.length : Int) + 41))))) := (HB.out.setCell HS.out.1.b0 _).setCell HS.out.1.b0 _
      have HK9 : Hid (Kt w ((wr.setCell ⟨L0, 15, none⟩ (.int .i64 ((N.length : Int) + 1))).setCell ⟨L0, 16, none⟩ (.int .i64 (sz + ((k.length : Int) + 41))))) := (HKt.out.set HSm.out.hd (.inr rfl) _ _).set (HSm.out.setCount _).hd (.inr rfl) _ _
      clear hme
      go_wp2_with fail
      go_region
      obtain ⟨w9, HW9⟩ := hid_ex ((wr.setCell ⟨L0, 15, none⟩ (.int .i64 ((N.length : Int) + 1))).setCell ⟨L0, 16, none⟩ (.int .i64 (sz + ((k.length : Int) + 41))))
      rw [← HW9.out] at HF9 HB9 HK9
      rw [← HW9.out]
      clear HW9 d15 d16 b0 f15 f16
      go_wp2_with fail
      go_ret
      refine ⟨rfl, ⟨b, .slice a5 k.length c5, ?_, HBK.out⟩, HB9.out.drew, fun c cs T fr h1 h2 hc => HK9.out c cs T fr h1 h2 hc⟩
      have := HF9.out.kc (kc_drew _)
      rw [← Int.add_assoc] at this
      exact this
end Go.Proofs.Ytopemhlkjicjpaa
