/- The contract of law16's together. -/
import Derived.Test.YteagbcijpfpjhaaPK18
namespace Go.Proofs.Yteagbcijpfpjhaa
open Go.RowKit Go.Shelf

theorem tog_take (L : List Rn) (fs : List Int) (k : Nat) (hk : k < L.length) : (L.take (k + 1)).foldl (fun n r => fs.foldl (stp r) n) 0 = fs.foldl (stp L[k]) ((L.take k).foldl (fun n r => fs.foldl (stp r) n) 0) := by
  rw [List.take_succ_eq_append_getElem hk, List.foldl_append]
  rfl
theorem stp_take (fs : List Int) (r : Rn) (n : Int) (k : Nat) (hk : k < fs.length) : (fs.take (k + 1)).foldl (stp r) n = stp r ((fs.take k).foldl (stp r) n) fs[k] := by
  rw [List.take_succ_eq_append_getElem hk, List.foldl_append]
  rfl
set_option maxRecDepth 100000 in
set_option maxHeartbeats 4000000 in
theorem together_any (v fv : Value) (L : List Rn) (fs : List Int) (lv : Int) (w : World) (hR : NReads w v L) (hF : Reads w fv fs) (h64 : L.length ≤ 64) (hf64 : fs.length ≤ 64) (hp : ∀ r ∈ L, 0 ≤ r.c) :
    Calls Try.prog 21 #[v, .agg #[fv, .int .i64 lv]] w fun e w' => e = .returned (.int .i64 (togF L fs)) ∧ 0 ≤ togF L fs ∧ togF L fs ≤ 4503599627370496 ∧ Below w.heap.size w w' := by
  have HR : Hid (NReads w v L) := hR
  have HF : Hid (Reads w fv fs) := hF
  have HP : Hid (∀ r ∈ L, 0 ≤ r.c) := hp
  obtain ⟨a, cap, rfl, hl1, hl2⟩ := hR.form
  obtain ⟨fa, fc, rfl, hfl⟩ := hF.form
  clear hR hF hp
  unfold maxLen at hl2 hfl
  obtain ⟨X, HX⟩ := hid_ex (togF L fs)
  rw [← HX.out]
  go_enter Try.func21, Try.ntmps21
  go_wp2_with fail
  obtain ⟨w0, HW0⟩ := hid_ex (w.alloc (.cells #[.slice fa fs.length fc, .int .i64 lv] 28))
  have HB0 : Hid (Below w.heap.size w w0) := by rw [HW0.out]; exact (Below.refl _ _).alloc (Nat.le_refl _) _
  have HX0 : Hid (w0.heap[w.heap.size]? = some (.cells #[.slice fa fs.length fc, .int .i64 lv] 28)) := by rw [HW0.out]; exact heap_alloc_new _ _
  have hl0 : w.heap.size < w0.heap.size := (Array.getElem?_eq_some_iff.1 HX0.out).1
  rw [← HW0.out]
  clear HW0
  go_loopw [5, 6] (fun nv i wr => ∃ (k : Nat) (n : Int), k ≤ L.length ∧ i = .int .i64 (k : Int) ∧ nv = .int .i64 n ∧ 0 ≤ n ∧ n ≤ (k : Int) * 70368744177664 ∧ Hid (n = (L.take k).foldl (fun n r => fs.foldl (stp r) n) 0) ∧ Hid (Below w0.heap.size w0 wr)) (fun _ i _ => L.length - (intOf i).toNat)
  case atStart => exact ⟨0, 0, by omega, rfl, rfl, by omega, by omega, rfl, Below.refl _ _⟩
  case round =>
    obtain ⟨k, n, hk, rfl, rfl, hn0, hn1, HN, HB⟩ := hrel
    generalize wr = W1 at *
    have HBw : Hid (Below w.heap.size w W1) := HB0.out.trans (HB.out.mono HB0.out.size)
    by_cases hlt : k < L.length
    · obtain ⟨b, off, rfl, hb⟩ := HR.out.ptr (by omega)
      obtain ⟨r, Hr⟩ := hid_ex L[k]
      have hrc : 0 ≤ r.c := by rw [Hr.out]; exact HP.out _ (List.getElem_mem hlt)
      have hrk : r.c ≤ 9223372036854775807 := by rw [Hr.out]; exact (HR.out.ok _ (List.getElem_mem hlt)).c2
      have HTk : Hid ((L.take (k + 1)).foldl (fun n r => fs.foldl (stp r) n) 0 = fs.foldl (stp r) n) := by
        unfold Hid
        rw [tog_take L fs k hlt, ← Hr.out, ← HN.out]
      go_wp2_with fail
      go_loopw [5, 7] (fun nv i wr => ∃ (m : Nat) (n2 : Int), m ≤ fs.length ∧ i = .int .i64 (m : Int) ∧ nv = .int .i64 n2 ∧ n ≤ n2 ∧ n2 ≤ n + (m : Int) * 1099511627776 ∧ Hid (n2 = (fs.take m).foldl (stp r) n) ∧ Hid (Below w0.heap.size w0 wr)) (fun _ i _ => fs.length - (intOf i).toNat)
      case atStart => exact ⟨0, n, by omega, rfl, rfl, by omega, by omega, rfl, HB.out⟩
      case round =>
        obtain ⟨m, n2, hm, rfl, rfl, hm0, hm1, HM, HB2⟩ := hrel
        have HB2w : Hid (Below w.heap.size w wr) := HB0.out.trans (HB2.out.mono HB0.out.size)
        have HX2 : Hid (wr.heap[w.heap.size]? = some (.cells #[.slice fa fs.length fc, .int .i64 lv] 28)) := (HB2.out.block _ hl0).trans HX0.out
        have g0 := (cell_row HX2.out 0 (by simp)).1
        simp only [List.getElem_toArray, List.getElem_cons_zero] at g0
        by_cases hmt : m < fs.length
        · obtain ⟨fb, fo, rfl, hfb, hfc⟩ := (HF.out.below HB2w.out).at m hmt
          obtain ⟨c0, c1, c2, c3⟩ := (HR.out.below HB2w.out).four hlt r Hr.out
          obtain ⟨y, Hy⟩ := hid_ex fs[m]
          rw [← Hy.out] at hfc
          unfold ic at hfc
          have HS : Hid ((fs.take (m + 1)).foldl (stp r) n = stp r n2 y) := by
            unfold Hid
            rw [stp_take fs r n m hmt, ← HM.out, ← Hy.out]
          have HBD : Hid _ := stp_bnd r hrc n2 y
          by_cases hy : y = r.f
          · have hbe : (y == r.f) = true := by simpa using hy
            by_cases hs : r.c < 1099511627776
            · have hds : decide (r.c < 1099511627776) = true := decide_eq_true hs
              have HE : Hid (n2 + r.c = (fs.take (m + 1)).foldl (stp r) n) := by
                unfold Hid
                rw [HS.out, stp, if_pos ⟨hy, hs⟩]
              clear hy
              go_wp2_with fail
              go_quiet (fail)
              have HBn : Hid (Below w0.heap.size w0 (wr.drewN nq)) := below_drewN HB2.out nq
              go_wp2_with fail
              go_roundw
              case rel => exact ⟨m + 1, n2 + r.c, by omega, by go_num, rfl, by omega, by omega, HE.out, HBn.out⟩
              case measure => simp [intOf]; omega
            · have hds : decide (r.c < 1099511627776) = false := decide_eq_false hs
              have HE : Hid (n2 = (fs.take (m + 1)).foldl (stp r) n) := by
                unfold Hid
                rw [HS.out, stp, if_neg (fun h => hs h.2)]
              clear hy
              go_wp2_with fail
              go_quiet (fail)
              have HBn : Hid (Below w0.heap.size w0 (wr.drewN nq)) := below_drewN HB2.out nq
              go_wp2_with fail
              go_roundw
              case rel => exact ⟨m + 1, n2, by omega, by go_num, rfl, by omega, by omega, HE.out, HBn.out⟩
              case measure => simp [intOf]; omega
          · have hbe : (y == r.f) = false := by simpa using hy
            have HE : Hid (n2 = (fs.take (m + 1)).foldl (stp r) n) := by
              unfold Hid
              rw [HS.out, stp, if_neg (fun h => hy h.1)]
            clear hy
            go_wp2_with fail
            go_quiet (fail)
            have HBn : Hid (Below w0.heap.size w0 (wr.drewN nq)) := below_drewN HB2.out nq
            go_wp2_with fail
            go_roundw
            case rel => exact ⟨m + 1, n2, by omega, by go_num, rfl, by omega, by omega, HE.out, HBn.out⟩
            case measure => simp [intOf]; omega
        · have HE : Hid (n2 = (L.take (k + 1)).foldl (fun n r => fs.foldl (stp r) n) 0) := by
            unfold Hid
            rw [HTk.out, HM.out, List.take_of_length_le (by omega)]
          go_wp2_with fail
          go_roundw
          case rel => exact ⟨k + 1, n2, by omega, by go_num, rfl, by omega, by omega, HE.out, HB2.out⟩
          case measure => simp [intOf]; omega
    · have HE : Hid (X = n) := by
        unfold Hid
        rw [HX.out, HN.out, List.take_of_length_le (by omega)]
        rfl
      go_wp2_with fail
      go_ret
      rw [HE.out]
      exact ⟨rfl, hn0, by omega, HBw.out⟩
end Go.Proofs.Yteagbcijpfpjhaa
