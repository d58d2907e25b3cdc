/- The contract of wide.Print: a number's decimal digits. -/
import Derived.Test.YtldbglkapopbiaaW4
import Derived.Test.YtldbglkapopbiaaD1
import Derived.Deep.Cut
namespace Go.Proofs.Ytldbglkapopbiaa
open Go.RowKit

theorem magnitude_neg' (n : Nat) (x1 : 1 ≤ n) (x2 : (n : Int) ≤ 170141183460469231731687303715884105728) (w : World) :
    Calls Try.prog 32 #[.agg #[.int .i64 (hi (-(n : Int))), .int .u64 (lo (-(n : Int)))]] w fun e w' => e = .returned (.tuple #[.int .u64 ((n : Int) / 18446744073709551616), .int .u64 ((n : Int) % 18446744073709551616)]) ∧ Below w.heap.size w w' := by
  have h := magnitude_neg (-(n : Int)) (by omega) (by omega) w
  rw [Int.neg_neg] at h
  exact h
/-- The forty bytes of Print's array, and that they may be written. -/
def TextAt (n k b : Nat) (w : World) : Prop := ∀ i, i < 40 → w.cell? ⟨b, i, none⟩ = some (.int .u8 (dgAt n k i)) ∧ w.frozen? ⟨b, i, none⟩ = false
theorem addr_ne (b i j : Nat) (h : i ≠ j) : (⟨b, i, none⟩ : Addr) ≠ ⟨b, j, none⟩ := by
  intro e; exact h (congrArg Addr.off e)
theorem textAt_set {n k b j : Nat} {w : World} (h : TextAt n k b w) (hj : j + k = 39) : TextAt n (k + 1) b (w.setCell ⟨b, j, none⟩ (.int .u8 (48 + rk n k % 10))) := by
  intro i hi
  refine ⟨?_, by rw [World.frozen?_setCell]; exact (h i hi).2⟩
  by_cases e : i = j
  · subst e
    rw [World.cell?_setCell_same _ _ _ (h i hi).1]
    have e2 : dgAt n (k + 1) i = 48 + rk n k % 10 := by
      unfold dgAt; rw [if_pos (by omega)]
      have : 39 - i = k := by omega
      rw [this]
    rw [e2]
  · rw [World.cell?_setCell_other (h := addr_ne b j i (Ne.symm e)), (h i hi).1]
    have e2 : dgAt n (k + 1) i = dgAt n k i := by
      unfold dgAt
      by_cases c : 40 ≤ i + k
      · rw [if_pos c, if_pos (by omega)]
      · rw [if_neg c, if_neg (by omega)]
    rw [e2]
theorem textAt_zero (n b : Nat) (w : World) (hc : ∀ i, i < 40 → w.cell? ⟨b, i, none⟩ = some (.int .u8 0)) (hf : ∀ i, i < 40 → w.frozen? ⟨b, i, none⟩ = false) : TextAt n 0 b w := by
  intro i hi
  have e : dgAt n 0 i = 0 := by unfold dgAt; rw [if_neg (by omega)]
  rw [e]; exact ⟨hc i hi, hf i hi⟩
theorem zeros40 (i : Nat) (h : i < 40) : (Array.replicate 40 (Value.int .u8 0))[i]? = some (Value.int .u8 0) := by
  simp [h]
theorem textAt_below {n k b B : Nat} {w w' : World} (h : TextAt n k b w) (hb : Below B w w') (hB : b < B) : TextAt n k b w' := by
  intro i hi
  rw [hb.cell (p := ⟨b, i, none⟩) hB, hb.frozen (p := ⟨b, i, none⟩) hB]
  exact h i hi

theorem arr40 : Try.prog.arrayLen 54 = 40 := by kernel_rfl
theorem slice_text (b j : Nat) (hj : j ≤ 39) (w : World) : (Instr.sliceAt 54 (.pointer (some ⟨b, 0, none⟩)) (some (.int .i64 j)) none none).run Try.prog w = .ok (.slice (some ⟨b, j, none⟩) (40 - j) (40 - j)) w := by
  have hs : (sizeOf (Try.prog.elem 54)).run Try.prog w = .ok 1 w := by kernel_rfl
  have ht : Try.prog.underlying 54 = some (.array (Try.prog.arrayLen 54) (Try.prog.elem 54)) := by kernel_rfl
  rw [run_sliceAt_array_l w 54 ⟨b, 0, none⟩ ht .i64 j (by omega) (by rw [arr40]; omega), hs]
  have h0 : ¬ (40 = j) := by omega
  have ea : (⟨b, 0, none⟩ : Addr).add (j * 1) = ⟨b, j, none⟩ := by simp [Addr.add]; intro e; exact e.symm
  simp only [slicedAt, arr40, Int.toNat_natCast, if_neg h0]
  show Result.ok (Value.slice (some ((⟨b, 0, none⟩ : Addr).add (j * 1))) (40 - j) (40 - j)) w = _
  rw [ea]

set_option maxRecDepth 100000 in
set_option maxHeartbeats 1000000 in
theorem print_pos (n : Nat) (x2 : (n : Int) < 170141183460469231731687303715884105728) (w : World) :
    Calls Try.prog 18 #[.agg #[.int .i64 (hi n), .int .u64 (lo n)]] w fun e w' => (∃ L, IsLen n L ∧ L ≤ 39 ∧ e = .returned (.string ⟨(decs n L).toArray⟩)) ∧ Below w.heap.size w w' := by
  have hn : ¬ hi n < 0 := by rw [hi_neg n (by omega) x2]; omega
  go_enter Try.func18, Try.ntmps18
  go_wp2_with fail
  refine (magnitude_pos n (by omega) x2 _).mono ?_
  rintro e w1 ⟨rfl, hbl⟩
  have hT : TextAt n 0 (w.heap.size + 1) w1 := by
    refine textAt_zero n _ _ (fun i hi => ?_) (fun i hi => ?_)
    · rw [hbl.cell (p := ⟨w.heap.size + 1, i, none⟩) (by simp), World.cell?_alloc2_new]
      exact zeros40 i hi
    · rw [hbl.frozen (p := ⟨w.heap.size + 1, i, none⟩) (by simp), World.frozen?_alloc2_new]
  have c0 : w1.cell? ⟨w.heap.size, 0, none⟩ = some (.int .i64 (hi n)) := by
    rw [hbl.cell (p := ⟨w.heap.size, 0, none⟩) (by simp; omega), World.cell?_alloc2_first]; rfl
  have hsz : w.heap.size + 2 ≤ w1.heap.size := by have := hbl.size; simp at this; omega
  have HB : Below w.heap.size w w1 := (((Below.refl _ _).alloc (by simp) _).alloc (by simp) _).trans (hbl.mono (by simp; omega))
  clear hbl
  have HR0 : Hid (rk n 0 = n) := rk_zero n
  have HT : Hid (TextAt n 0 (w.heap.size + 1) w1) := hT
  clear hT
  go_wp2_with fail
  go_loopw [4, 5, 6, 7] (fun a h l m wr => ∃ j k : Nat, j + k = 40 ∧ 1 ≤ j ∧ a = .int .i64 j ∧ h = .int .u64 (rk n k / 18446744073709551616) ∧ l = .int .u64 (rk n k % 18446744073709551616) ∧ m = .bool (decide (k = 0 ∨ rk n k ≠ 0)) ∧ Below (w.heap.size + 1) w1 wr ∧ TextAt n k (w.heap.size + 1) wr ∧ ∀ k', k = k' + 1 → k' = 0 ∨ rk n k' ≠ 0) (fun a _ _ _ _ => (intOf a).toNat)
  case atStart => exact ⟨40, 0, rfl, by omega, rfl, by rw [HR0.out], by rw [HR0.out], rfl, Below.refl _ _, HT.out, fun k' h => by omega⟩
  case round =>
    obtain ⟨j, k, hjk, hj1, rfl, rfl, rfl, rfl, hbr, hTr, hpv⟩ := hrel
    have HPV : Hid (∀ k', k = k' + 1 → k' = 0 ∨ rk n k' ≠ 0) := hpv
    clear hpv
    have hb2 := hbr.size
    have r1 := rk_nn n k
    have r2 := rk_le n k
    by_cases hm : k = 0 ∨ rk n k ≠ 0
    · have hk : k < 39 := by
        rcases Nat.lt_or_ge k 39 with h | h
        · exact h
        · have := rk_big n k (by omega) h; rcases hm with hm | hm <;> omega
      obtain ⟨i, rfl⟩ : ∃ i, j = i + 1 := ⟨j - 1, by omega⟩
      have hd : decide (k = 0 ∨ rk n k ≠ 0) = true := by simpa using hm
      have HS : Hid (rk n (k + 1) = rk n k / 10) := rk_succ n k
      have HTr : Hid (TextAt n k (w.heap.size + 1) wr) := hTr
      have HM : Hid (k = 0 ∨ rk n k ≠ 0) := hm
      have q1 := rk_nn n (k + 1)
      have q2 : rk n (k + 1) < 340282366920938463463374607431768211456 := by have := rk_le n (k + 1); omega
      clear hTr hm
      rw [hd]
      go_wp2_with fail
      refine (tenth_any (rk n k) r1 (by omega) _).mono ?_
      rw [← HS.out]
      rintro e w2 ⟨rfl, hbl⟩
      have HT2 : Hid (TextAt n k (w.heap.size + 1) w2) := textAt_below HTr.out hbl (by omega)
      have c1 := (HT2.out i (by omega)).1
      have c2 := (HT2.out i (by omega)).2
      have hsz2 := hbl.size
      have d1 : 0 ≤ rk n k % 10 := by omega
      have d2 : rk n k % 10 ≤ 9 := by omega
      have HBL : Hid (Below (w.heap.size + 1) w1 w2) := hbr.trans (hbl.mono (by omega))
      have HT3 : Hid (TextAt n (k + 1) (w.heap.size + 1) (w2.setCell ⟨w.heap.size + 1, i, none⟩ (.int .u8 (48 + rk n k % 10)))) := textAt_set HT2.out (by omega)
      clear hbl hbr
      generalize hdg : rk n k % 10 = d at *
      generalize hq : rk n (k + 1) = q at *
      have HQ : Hid (rk n (k + 1) = q) := hq
      have hi1 : i ≤ 39 := by omega
      have HJ : Hid (i + 1 + k = 40) := hjk
      clear hdg hq hd hj1 hjk x2
      obtain ⟨qh, HQH⟩ : ∃ qh, Hid (qh = q / 18446744073709551616) := ⟨_, rfl⟩
      obtain ⟨ql, HQL⟩ : ∃ ql, Hid (ql = q % 18446744073709551616) := ⟨_, rfl⟩
      rw [← HQH.out, ← HQL.out]
      have fin : ∀ (bb : Bool), bb = decide (q ≠ 0) → (∃ j k : Nat, j + k = 40 ∧ 1 ≤ j ∧ Value.int .i64 i = .int .i64 j ∧ Value.int .u64 qh = .int .u64 (rk n k / 18446744073709551616) ∧ Value.int .u64 ql = .int .u64 (rk n k % 18446744073709551616) ∧ Value.bool bb = .bool (decide (k = 0 ∨ rk n k ≠ 0)) ∧ Below (w.heap.size + 1) w1 (w2.setCell ⟨w.heap.size + 1, i, none⟩ (.int .u8 (48 + d))) ∧ TextAt n k (w.heap.size + 1) (w2.setCell ⟨w.heap.size + 1, i, none⟩ (.int .u8 (48 + d))) ∧ ∀ k', k = k' + 1 → k' = 0 ∨ rk n k' ≠ 0) := by
        intro bb hbb
        have hj := HJ.out
        refine ⟨i, k + 1, by omega, by omega, rfl, ?_, ?_, ?_, HBL.out.setCell (by simp) _, HT3.out, fun k' hk' => ?_⟩
        · rw [HQ.out, HQH.out]
        · rw [HQ.out, HQL.out]
        · rw [HQ.out, hbb]; simp
        · obtain rfl : k = k' := by omega
          exact HM.out
      by_cases t1 : qh = 0
      · by_cases t2 : ql = 0
        · have b1 : (qh != 0) = false := by simp [t1]
          have b2 : (ql != 0) = false := by simp [t2]
          have FIN := fin false (by have := HQH.out; have := HQL.out; simp; omega)
          have F2 : Hid _ := FIN
          clear t1 t2 fin FIN
          go_wp2_with fail
          go_roundw
          case rel => exact F2.out
          case measure => simp [intOf]
        · have b1 : (qh != 0) = false := by simp [t1]
          have b2 : (ql != 0) = true := by simp [t2]
          have FIN := fin true (by have := HQH.out; have := HQL.out; simp; omega)
          have F2 : Hid _ := FIN
          clear t1 t2 fin FIN
          go_wp2_with fail
          go_roundw
          case rel => exact F2.out
          case measure => simp [intOf]
      · have b1 : (qh != 0) = true := by simp [t1]
        have FIN := fin true (by have := HQH.out; have := HQL.out; simp; omega)
        have F2 : Hid _ := FIN
        clear t1 fin FIN
        go_wp2_with fail
        go_roundw
        case rel => exact F2.out
        case measure => simp [intOf]
    · have hk0 : k ≠ 0 := by omega
      obtain ⟨L, rfl⟩ : ∃ L, k = L + 1 := ⟨k - 1, by omega⟩
      have hd : decide (L + 1 = 0 ∨ rk n (L + 1) ≠ 0) = false := by simpa using hm
      rw [hd]
      have HJ : Hid (j + (L + 1) = 40) := hjk
      have HTr : Hid (TextAt n (L + 1) (w.heap.size + 1) wr) := hTr
      have HM : Hid (¬ (L + 1 = 0 ∨ rk n (L + 1) ≠ 0)) := hm
      have c1 := hbr.cell (p := ⟨w.heap.size, 0, none⟩) (by simp)
      rw [c0] at c1
      have hj : j ≤ 39 := by omega
      have hcv : ∀ cap, (convert 36 9 (.slice (some ⟨w.heap.size + 1, j, none⟩) (40 - j) cap)).run Try.prog wr = .ok (.string ⟨(decs n (L + 1)).toArray⟩) wr := by
        intro cap
        have h := run_convert_bytes_back (P := Try.prog) wr 36 9 5 ⟨w.heap.size + 1, j, none⟩ cap (decs n (L + 1)) Try.underlying36 Try.underlying5 Try.underlying9 (by
          intro i hi'
          have hlen := decs_len n (L + 1)
          rw [decs_get n (L + 1) i hi' (by omega)]
          have e : 40 - (L + 1) + i = j + i := by omega
          rw [e]
          have ea : (⟨w.heap.size + 1, j, none⟩ : Addr).add i = ⟨w.heap.size + 1, j + i, none⟩ := by simp [Addr.add]
          rw [ea]
          exact (hTr (j + i) (by omega)).1)
        have e : (decs n (L + 1)).length = 40 - j := by rw [decs_len]; omega
        rw [e] at h
        exact h
      have h40 : Int.toNat (j : Int) = j := rfl
      have hne : ¬ 40 = j := by omega
      clear hd hjk hTr r1 r2 x2 hk0
      have hlt : decide (hi (n : Int) < 0) = false := by simpa using hn
      have HF : Hid (IsLen n (L + 1)) := isLen_of n L (by omega) (HPV.out L rfl)
      have HF2 : Hid (L + 1 ≤ 39) := by have := HJ.out; unfold Hid; omega
      have HBB : Hid (Below w.heap.size w wr) := HB.trans (hbr.mono (by omega))
      clear hn c0 HB hbr HR0 HT hb2 hsz hm
      have hsl := slice_text (w.heap.size + 1) j hj
      generalize hi (n : Int) = hn' at *
      clear HPV
      go_wp2_with fail
      go_ret
      exact ⟨⟨L + 1, HF.out, HF2.out, rfl⟩, HBB.out⟩
set_option maxRecDepth 100000 in
set_option maxHeartbeats 1000000 in
theorem print_neg (n : Nat) (x1 : 1 ≤ n) (x2 : (n : Int) ≤ 170141183460469231731687303715884105728) (w : World) :
    Calls Try.prog 18 #[.agg #[.int .i64 (hi (-(n : Int))), .int .u64 (lo (-(n : Int)))]] w fun e w' => (∃ L, IsLen n L ∧ L ≤ 39 ∧ e = .returned (.string ⟨(45 :: decs n L).toArray⟩)) ∧ Below w.heap.size w w' := by
  have hn : hi (-(n : Int)) < 0 := by rw [hi_neg _ (by omega) (by omega)]; omega
  go_enter Try.func18, Try.ntmps18
  go_wp2_with fail
  refine (magnitude_neg' n x1 x2 _).mono ?_
  rintro e w1 ⟨rfl, hbl⟩
  have hT : TextAt n 0 (w.heap.size + 1) w1 := by
    refine textAt_zero n _ _ (fun i hi => ?_) (fun i hi => ?_)
    · rw [hbl.cell (p := ⟨w.heap.size + 1, i, none⟩) (by simp), World.cell?_alloc2_new]
      exact zeros40 i hi
    · rw [hbl.frozen (p := ⟨w.heap.size + 1, i, none⟩) (by simp), World.frozen?_alloc2_new]
  have c0 : w1.cell? ⟨w.heap.size, 0, none⟩ = some (.int .i64 (hi (-(n : Int)))) := by
    rw [hbl.cell (p := ⟨w.heap.size, 0, none⟩) (by simp; omega), World.cell?_alloc2_first]; rfl
  have hsz : w.heap.size + 2 ≤ w1.heap.size := by have := hbl.size; simp at this; omega
  have HB : Below w.heap.size w w1 := (((Below.refl _ _).alloc (by simp) _).alloc (by simp) _).trans (hbl.mono (by simp; omega))
  clear hbl
  have HR0 : Hid (rk n 0 = n) := rk_zero n
  have HT : Hid (TextAt n 0 (w.heap.size + 1) w1) := hT
  clear hT
  go_wp2_with fail
  go_loopw [4, 5, 6, 7] (fun a h l m wr => ∃ j k : Nat, j + k = 40 ∧ 1 ≤ j ∧ a = .int .i64 j ∧ h = .int .u64 (rk n k / 18446744073709551616) ∧ l = .int .u64 (rk n k % 18446744073709551616) ∧ m = .bool (decide (k = 0 ∨ rk n k ≠ 0)) ∧ Below (w.heap.size + 1) w1 wr ∧ TextAt n k (w.heap.size + 1) wr ∧ ∀ k', k = k' + 1 → k' = 0 ∨ rk n k' ≠ 0) (fun a _ _ _ _ => (intOf a).toNat)
  case atStart => exact ⟨40, 0, rfl, by omega, rfl, by rw [HR0.out], by rw [HR0.out], rfl, Below.refl _ _, HT.out, fun k' h => by omega⟩
  case round =>
    obtain ⟨j, k, hjk, hj1, rfl, rfl, rfl, rfl, hbr, hTr, hpv⟩ := hrel
    have HPV : Hid (∀ k', k = k' + 1 → k' = 0 ∨ rk n k' ≠ 0) := hpv
    clear hpv
    have hb2 := hbr.size
    have r1 := rk_nn n k
    have r2 := rk_le n k
    by_cases hm : k = 0 ∨ rk n k ≠ 0
    · have hk : k < 39 := by
        rcases Nat.lt_or_ge k 39 with h | h
        · exact h
        · have := rk_big n k (by omega) h; rcases hm with hm | hm <;> omega
      obtain ⟨i, rfl⟩ : ∃ i, j = i + 1 := ⟨j - 1, by omega⟩
      have hd : decide (k = 0 ∨ rk n k ≠ 0) = true := by simpa using hm
      have HS : Hid (rk n (k + 1) = rk n k / 10) := rk_succ n k
      have HTr : Hid (TextAt n k (w.heap.size + 1) wr) := hTr
      have HM : Hid (k = 0 ∨ rk n k ≠ 0) := hm
      have q1 := rk_nn n (k + 1)
      have q2 : rk n (k + 1) < 340282366920938463463374607431768211456 := by have := rk_le n (k + 1); omega
      clear hTr hm
      rw [hd]
      go_wp2_with fail
      refine (tenth_any (rk n k) r1 (by omega) _).mono ?_
      rw [← HS.out]
      rintro e w2 ⟨rfl, hbl⟩
      have HT2 : Hid (TextAt n k (w.heap.size + 1) w2) := textAt_below HTr.out hbl (by omega)
      have c1 := (HT2.out i (by omega)).1
      have c2 := (HT2.out i (by omega)).2
      have hsz2 := hbl.size
      have d1 : 0 ≤ rk n k % 10 := by omega
      have d2 : rk n k % 10 ≤ 9 := by omega
      have HBL : Hid (Below (w.heap.size + 1) w1 w2) := hbr.trans (hbl.mono (by omega))
      have HT3 : Hid (TextAt n (k + 1) (w.heap.size + 1) (w2.setCell ⟨w.heap.size + 1, i, none⟩ (.int .u8 (48 + rk n k % 10)))) := textAt_set HT2.out (by omega)
      clear hbl hbr
      generalize hdg : rk n k % 10 = d at *
      generalize hq : rk n (k + 1) = q at *
      have HQ : Hid (rk n (k + 1) = q) := hq
      have hi1 : i ≤ 39 := by omega
      have HJ : Hid (i + 1 + k = 40) := hjk
      clear hdg hq hd hj1 hjk x2
      obtain ⟨qh, HQH⟩ : ∃ qh, Hid (qh = q / 18446744073709551616) := ⟨_, rfl⟩
      obtain ⟨ql, HQL⟩ : ∃ ql, Hid (ql = q % 18446744073709551616) := ⟨_, rfl⟩
      rw [← HQH.out, ← HQL.out]
      have fin : ∀ (bb : Bool), bb = decide (q ≠ 0) → (∃ j k : Nat, j + k = 40 ∧ 1 ≤ j ∧ Value.int .i64 i = .int .i64 j ∧ Value.int .u64 qh = .int .u64 (rk n k / 18446744073709551616) ∧ Value.int .u64 ql = .int .u64 (rk n k % 18446744073709551616) ∧ Value.bool bb = .bool (decide (k = 0 ∨ rk n k ≠ 0)) ∧ Below (w.heap.size + 1) w1 (w2.setCell ⟨w.heap.size + 1, i, none⟩ (.int .u8 (48 + d))) ∧ TextAt n k (w.heap.size + 1) (w2.setCell ⟨w.heap.size + 1, i, none⟩ (.int .u8 (48 + d))) ∧ ∀ k', k = k' + 1 → k' = 0 ∨ rk n k' ≠ 0) := by
        intro bb hbb
        have hj := HJ.out
        refine ⟨i, k + 1, by omega, by omega, rfl, ?_, ?_, ?_, HBL.out.setCell (by simp) _, HT3.out, fun k' hk' => ?_⟩
        · rw [HQ.out, HQH.out]
        · rw [HQ.out, HQL.out]
        · rw [HQ.out, hbb]; simp
        · obtain rfl : k = k' := by omega
          exact HM.out
      by_cases t1 : qh = 0
      · by_cases t2 : ql = 0
        · have b1 : (qh != 0) = false := by simp [t1]
          have b2 : (ql != 0) = false := by simp [t2]
          have FIN := fin false (by have := HQH.out; have := HQL.out; simp; omega)
          have F2 : Hid _ := FIN
          clear t1 t2 fin FIN
          go_wp2_with fail
          go_roundw
          case rel => exact F2.out
          case measure => simp [intOf]
        · have b1 : (qh != 0) = false := by simp [t1]
          have b2 : (ql != 0) = true := by simp [t2]
          have FIN := fin true (by have := HQH.out; have := HQL.out; simp; omega)
          have F2 : Hid _ := FIN
          clear t1 t2 fin FIN
          go_wp2_with fail
          go_roundw
          case rel => exact F2.out
          case measure => simp [intOf]
      · have b1 : (qh != 0) = true := by simp [t1]
        have FIN := fin true (by have := HQH.out; have := HQL.out; simp; omega)
        have F2 : Hid _ := FIN
        clear t1 fin FIN
        go_wp2_with fail
        go_roundw
        case rel => exact F2.out
        case measure => simp [intOf]
    · have hk0 : k ≠ 0 := by omega
      obtain ⟨L, rfl⟩ : ∃ L, k = L + 1 := ⟨k - 1, by omega⟩
      have hd : decide (L + 1 = 0 ∨ rk n (L + 1) ≠ 0) = false := by simpa using hm
      rw [hd]
      have HJ : Hid (j + (L + 1) = 40) := hjk
      have HTr : Hid (TextAt n (L + 1) (w.heap.size + 1) wr) := hTr
      have HM : Hid (¬ (L + 1 = 0 ∨ rk n (L + 1) ≠ 0)) := hm
      have c1 := hbr.cell (p := ⟨w.heap.size, 0, none⟩) (by simp)
      rw [c0] at c1
      have hj : j ≤ 39 := by omega
      obtain ⟨i, rfl⟩ : ∃ i, j = i + 1 := ⟨j - 1, by omega⟩
      have hcv : ∀ cap, (convert 36 9 (.slice (some ⟨w.heap.size + 1, i, none⟩) (40 - i) cap)).run Try.prog (wr.setCell ⟨w.heap.size + 1, i, none⟩ (.int .u8 45)) = .ok (.string ⟨(45 :: decs n (L + 1)).toArray⟩) (wr.setCell ⟨w.heap.size + 1, i, none⟩ (.int .u8 45)) := by
        intro cap
        have h := run_convert_bytes_back (P := Try.prog) (wr.setCell ⟨w.heap.size + 1, i, none⟩ (.int .u8 45)) 36 9 5 ⟨w.heap.size + 1, i, none⟩ cap (45 :: decs n (L + 1)) Try.underlying36 Try.underlying5 Try.underlying9 (by
          intro m hm'
          have hlen := decs_len n (L + 1)
          have ea : (⟨w.heap.size + 1, i, none⟩ : Addr).add m = ⟨w.heap.size + 1, i + m, none⟩ := by simp [Addr.add]
          rw [ea]
          match m, hm' with
          | 0, _ => exact World.cell?_setCell_same _ _ _ (hTr i (by omega)).1
          | m + 1, hm' =>
            have hm2 : m < (decs n (L + 1)).length := by simpa using hm'
            rw [World.cell?_setCell_other (h := addr_ne _ i (i + (m + 1)) (by omega)), (hTr (i + (m + 1)) (by omega)).1]
            have e1 : (45 :: decs n (L + 1))[m + 1] = (decs n (L + 1))[m] := rfl
            rw [e1, decs_get n (L + 1) m hm2 (by omega)]
            have e : 40 - (L + 1) + m = i + (m + 1) := by omega
            rw [e])
        have e : (45 :: decs n (L + 1)).length = 40 - i := by rw [List.length_cons, decs_len]; omega
        rw [e] at h
        exact h
      have ci := (hTr i (by omega)).1
      have fi := (hTr i (by omega)).2
      have hi39 : i ≤ 39 := by omega
      have hlt : decide (hi (-(n : Int)) < 0) = true := by simpa using hn
      have HF : Hid (IsLen n (L + 1)) := isLen_of n L (by omega) (HPV.out L rfl)
      have HF2 : Hid (L + 1 ≤ 39) := by have := HJ.out; unfold Hid; omega
      have HBB : Hid (Below w.heap.size w (wr.setCell ⟨w.heap.size + 1, i, none⟩ (.int .u8 45))) := (HB.trans (hbr.mono (by omega))).setCell (by simp) _
      have hsl := slice_text (w.heap.size + 1) i hi39
      clear hd hjk hTr r1 r2 x2 hk0
      clear hn c0 HB hbr HR0 HT hb2 hsz hm
      generalize hi (-(n : Int)) = hn' at *
      clear HPV
      go_wp2_with fail
      go_ret
      exact ⟨⟨L + 1, HF.out, HF2.out, rfl⟩, HBB.out⟩
end Go.Proofs.Ytldbglkapopbiaa
