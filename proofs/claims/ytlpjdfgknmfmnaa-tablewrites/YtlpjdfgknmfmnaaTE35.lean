/- B9 RB6, joined. -/
import Derived.Test.YtlpjdfgknmfmnaaTE11
import Derived.Test.YtlpjdfgknmfmnaaTE33
/- The contract of bloom's Read. -/
namespace Go.Proofs.Ytlpjdfgknmfmnaa
open Go.RowKit

def rdOk (l : List UInt8) : Prop := 2 ≤ l.length ∧ l.length ≤ 8193 ∧ 1 ≤ (l.getD 0 0).toNat ∧ (l.getD 0 0).toNat ≤ 8
set_option maxRecDepth 100000 in
set_option maxHeartbeats 1000000 in
theorem read_ok (v : Value) (l : List UInt8) (w : World) (hR : Reads w v l) (hok : rdOk l) :
    Calls Try.prog 36 #[v] w fun e w' => ∃ v', e = .returned (.tuple #[v', .int .i64 0]) ∧ Fil w' w.heap.size v' (l.getD 0 0).toNat (l.drop 1) ∧ Below w.heap.size w w' := by
  obtain ⟨h1, h2, h3, h4⟩ := hok
  obtain ⟨h, Hh⟩ := hid_ex (l.getD 0 0).toNat
  rw [← Hh.out] at h3 h4 ⊢
  rcases hR with ⟨rfl, _⟩ | ⟨b, off, cap, rfl, r2, r3, r4, r5, r6⟩
  · simp at h1
  have HR : Hid (Reads w (.slice (some ⟨b, off, none⟩) l.length cap) l) := .inr ⟨b, off, cap, rfl, r2, r3, r4, r5, r6⟩
  have c0 := r6 0 (by omega)
  have e0 : bc l[0] = .int .u8 (h : Int) := by
    rw [Hh.out]; simp [bc, List.getD, List.getElem?_eq_getElem (show 0 < l.length by omega)]
  rw [e0, Nat.add_zero] at c0
  unfold maxLen at r4
  clear r6 e0
  have HM : Hid _ := mayHash_any (h : Int)
  have em : decide (1 ≤ (h : Int) ∧ (h : Int) ≤ 8) = true := by simp; omega
  rw [em] at HM
  clear em
  obtain ⟨i0, hi, hz0, hz1, hz2⟩ := info_parts info5
  obtain ⟨w2, hrn, hown2, hg2⟩ := run_make_full (P := Try.prog) w.drew w.heap.size 25 5 i0 (.int .u8 0) 1 Try.underlying25 hi hz0 hz1 .i64 .i64 (l.length - 1) (by rw [hz2]; omega) (by unfold maxLen; omega) (Nat.le_refl _)
  have e2 : ((l.length - 1 : Nat) : Int) = (l.length : Int) - 1 := by omega
  rw [e2] at hrn
  rw [Nat.mul_one] at hown2
  have hO2 := own_zeros hown2
  have HB2 : Hid (Below w.heap.size w w2) := (Below.refl w.heap.size w).drew.grown hg2 (Nat.le_refl _) (fun k hk => by cases hk)
  have HO2 : Hid (Own w2 w.heap.size (.slice (some ⟨w.heap.size, 0, none⟩) (l.length - 1) (l.length - 1)) (List.replicate (l.length - 1) 0)) := hO2
  have i1 : ¬ (l.length : Int) < 2 := by omega
  have i2 : ¬ (8193 : Int) < (l.length : Int) := by omega
  clear hown2 hg2 hO2 e2 hi hz0 hz1 hz2
  go_enter Try.func36, Try.ntmps36
  go_wp2_with fail
  refine (HM.out _).mono ?_
  rintro e w' ⟨rfl, hw⟩
  subst w'
  go_wp2_with fail
  refine wp_region_noPanic ?_
  refine wp_region_held_drew (S := (fun w' => Below w.heap.size w w')) (by kernel_rfl) ?_ (fun hHeld => ?_)
  · exact (Below.refl _ _).drew
  refine wpAnyH_take (i := 0) (v := .slice (some ⟨b, off, none⟩) l.length cap) rfl (by kernel_rfl) (by kernel_rfl) (by kernel_rfl) (fun _ _ _ h => h) (Or.inl ⟨by rfl, ?_⟩) (by assumption) ?_
  · (intro w1 hSw; (try dsimp only at hSw); go_simp)
  simp only [List.getElem_toArray, List.getElem_cons_zero, Act.put, List.setIfInBounds_toArray, List.set_cons_zero, List.set_cons_succ]
  refine wpAnyH_take (i := 1) (v := .pointer (some ⟨b, off, none⟩)) rfl (by kernel_rfl) (by kernel_rfl) (by kernel_rfl) (fun _ _ _ h => h) (Or.inl ⟨by rfl, ?_⟩) (by assumption) ?_
  · (intro w1 hSw; (try dsimp only at hSw); go_simp)
  simp only [List.getElem_toArray, List.getElem_cons_succ, List.getElem_cons_zero, Act.put, List.setIfInBounds_toArray, List.set_cons_zero, List.set_cons_succ]
  refine wpAnyH_take (i := 2) (v := .int .u8 (h : Int)) rfl (by kernel_rfl) (by kernel_rfl) (by kernel_rfl) (fun _ _ _ h => h) (Or.inl ⟨by rfl, ?_⟩) (by assumption) ?_
  · (intro w1 hSw; (try dsimp only at hSw); have hcc := (hSw.cell (p := ⟨b, off, none⟩) r5).trans c0; go_simp)
  simp only [List.getElem_toArray, List.getElem_cons_succ, List.getElem_cons_zero, Act.put, List.setIfInBounds_toArray, List.set_cons_zero, List.set_cons_succ]
  refine wpAnyH_take (i := 3) (v := .int .i64 (h : Int)) rfl (by kernel_rfl) (by kernel_rfl) (by kernel_rfl) (fun _ _ _ h => h) (Or.inl ⟨by rfl, ?_⟩) (by assumption) ?_
  · (intro w1 hSw; (try dsimp only at hSw); go_simp; (rw [IntKind.wrap_i64]; omega))
  simp only [List.getElem_toArray, List.getElem_cons_succ, List.getElem_cons_zero, Act.put, List.setIfInBounds_toArray, List.set_cons_zero, List.set_cons_succ]
  refine wpAnyH_take (i := 4) (v := .slice (some ⟨b, off, none⟩) l.length cap) rfl (by kernel_rfl) (by kernel_rfl) (by kernel_rfl) (fun _ _ _ h => h) (Or.inl ⟨by rfl, ?_⟩) (by assumption) ?_
  · (intro w1 hSw; (try dsimp only at hSw); go_simp)
  simp only [List.getElem_toArray, List.getElem_cons_succ, List.getElem_cons_zero, Act.put, List.setIfInBounds_toArray, List.set_cons_zero, List.set_cons_succ]
  refine wpAnyH_take (i := 5) (v := .int .i64 (l.length : Int)) rfl (by kernel_rfl) (by kernel_rfl) (by kernel_rfl) (fun _ _ _ h => h) (Or.inl ⟨by rfl, ?_⟩) (by assumption) ?_
  · (intro w1 hSw; (try dsimp only at hSw); go_simp)
  simp only [List.getElem_toArray, List.getElem_cons_succ, List.getElem_cons_zero, Act.put, List.setIfInBounds_toArray, List.set_cons_zero, List.set_cons_succ]
  refine wpAnyH_take (i := 6) (v := .int .i64 ((l.length : Int) - 1)) rfl (by kernel_rfl) (by kernel_rfl) (by kernel_rfl) (fun _ _ _ h => h) (Or.inl ⟨by rfl, ?_⟩) (by assumption) ?_
  · (intro w1 hSw; (try dsimp only at hSw); go_simp; (rw [IntKind.wrap_i64]; omega))
  simp only [List.getElem_toArray, List.getElem_cons_succ, List.getElem_cons_zero, Act.put, List.setIfInBounds_toArray, List.set_cons_zero, List.set_cons_succ]
  refine wpAnyH_ready (rs := [7]) (by kernel_rfl) (by simp) ?_
  refine AllReadyH.cons (o := _) rfl (fun K hK => ?_) AllReadyH.nil
  go_simp
  refine hK.out _ _ ?_ (fun hHeld => ?_)
  · exact HB2.out
  clear hK K
  refine wpAnyH_take (i := 8) (v := .agg #[.int .i64 (h : Int), .slice (some ⟨w.heap.size, 0, none⟩) (l.length - 1) (l.length - 1)]) rfl (by kernel_rfl) (by kernel_rfl) (by kernel_rfl) (fun _ _ _ h => h) (Or.inl ⟨by rfl, ?_⟩) (by assumption) ?_
  · (intro w1 hSw; (try dsimp only at hSw); go_simp)
  simp only [List.getElem_toArray, List.getElem_cons_succ, List.getElem_cons_zero, Act.put, List.setIfInBounds_toArray, List.set_cons_zero, List.set_cons_succ]
  refine wpAnyH_ready (rs := [9]) (by kernel_rfl) (by simp) ?_
  refine AllReadyH.cons (o := _) rfl (fun K hK => ?_) AllReadyH.nil
  go_simp
  refine hK.out _ _ ?_ (fun hHeld => ?_)
  · exact hHeld.alloc HB2.out.size _
  clear hK K
  refine wpAnyH_take (i := 10) (v := .pointer (some ⟨w2.heap.size, 0, none⟩)) rfl (by kernel_rfl) (by kernel_rfl) (by kernel_rfl) (fun _ _ _ h => h) (Or.inl ⟨by rfl, ?_⟩) (by assumption) ?_
  · (intro w1 hSw; (try dsimp only at hSw); go_simp)
  simp only [List.getElem_toArray, List.getElem_cons_succ, List.getElem_cons_zero, Act.put, List.setIfInBounds_toArray, List.set_cons_zero, List.set_cons_succ]
  refine wpAnyH_done (by kernel_rfl) ?_ _
  refine NoPanic.normal ?_
  obtain ⟨w3, HW3⟩ := hid_ex (w2.alloc (.cells #[.int .i64 (h : Int), .slice (some ⟨w.heap.size, 0, none⟩) (l.length - 1) (l.length - 1)] 125))
  rw [← HW3.out]
  have HB3 : Hid (Below w.heap.size w w3) := by rw [HW3.out]; exact hHeld
  clear hHeld hrn
  go_wp2_with fail
  have hN2 : ¬ cap = 1 := by omega
  have i4 : (1 : Int) ≤ (l.length : Int) := by omega
  have HRD : Hid (∀ w', Below w.heap.size w w' → Reads w' (.slice (some ⟨b, off + 1, none⟩) (l.length - 1) (cap - 1)) (l.drop 1)) := by
    intro w' hb
    have := (HR.out.below hb).drop (c := 1) (by omega) b off rfl
    exact this.1 (by omega)
  have hdl : (l.drop 1).length = l.length - 1 := by simp
  have HDL : Hid ((l.drop 1).length = l.length - 1) := hdl
  clear hdl
  have HOW : Hid (Own w3 w.heap.size (.slice (some ⟨w.heap.size, 0, none⟩) (l.length - 1) (l.length - 1)) (List.replicate (l.length - 1) 0)) := by rw [HW3.out]; exact HO2.out.alloc _
  have HCW : Hid (w3.heap[w2.heap.size]? = some (.cells #[.int .i64 (h : Int), .slice (some ⟨w.heap.size, 0, none⟩) (l.length - 1) (l.length - 1)] 125)) := by rw [HW3.out]; exact World.alloc_heap_new _ _
  have hg2 := (World.ownsRow.lt HO2.out w.heap.size rfl).2
  refine wp_region_noPanic ?_
  refine wp_region_held_drew (S := (fun w' => Below w.heap.size w w' ∧ w'.heap[w2.heap.size]? = some (.cells #[.int .i64 (h : Int), .slice (some ⟨w.heap.size, 0, none⟩) (l.length - 1) (l.length - 1)] 125) ∧ ∃ L, Own w' w.heap.size (.slice (some ⟨w.heap.size, 0, none⟩) (l.length - 1) (l.length - 1)) L)) (by kernel_rfl) ?_ (fun hHeld => ?_)
  · exact ⟨HB3.out.drew, HCW.out, _, HOW.out⟩
  refine wpAnyH_take (i := 0) (v := .pointer (some ⟨w2.heap.size, 0, none⟩)) rfl (by kernel_rfl) (by kernel_rfl) (by kernel_rfl) (fun _ _ _ h => h) (Or.inl ⟨by rfl, ?_⟩) (by assumption) ?_
  · (intro w1 hSw; (try dsimp only at hSw); go_simp)
  simp only [List.getElem_toArray, List.getElem_cons_zero, Act.put, List.setIfInBounds_toArray, List.set_cons_zero, List.set_cons_succ]
  refine wpAnyH_take (i := 1) (v := .pointer (some ⟨w2.heap.size, 0, none⟩)) rfl (by kernel_rfl) (by kernel_rfl) (by kernel_rfl) (fun _ _ _ h => h) (Or.inl ⟨by rfl, ?_⟩) (by assumption) ?_
  · (intro w1 hSw; (try dsimp only at hSw); go_simp)
  simp only [List.getElem_toArray, List.getElem_cons_succ, List.getElem_cons_zero, Act.put, List.setIfInBounds_toArray, List.set_cons_zero, List.set_cons_succ]
  refine wpAnyH_take (i := 2) (v := .pointer (some ⟨w2.heap.size, 1, none⟩)) rfl (by kernel_rfl) (by kernel_rfl) (by kernel_rfl) (fun _ _ _ h => h) (Or.inl ⟨by rfl, ?_⟩) (by assumption) ?_
  · (intro w1 hSw; (try dsimp only at hSw); go_simp)
  simp only [List.getElem_toArray, List.getElem_cons_succ, List.getElem_cons_zero, Act.put, List.setIfInBounds_toArray, List.set_cons_zero, List.set_cons_succ]
  refine wpAnyH_take (i := 3) (v := .slice (some ⟨w.heap.size, 0, none⟩) (l.length - 1) (l.length - 1)) rfl (by kernel_rfl) (by kernel_rfl) (by kernel_rfl) (fun _ _ _ h => h) (Or.inl ⟨by rfl, ?_⟩) (by assumption) ?_
  · (intro w1 hSw; (try dsimp only at hSw); (have hcc := cell_of hSw.2.1 1 (by simp); simp at hcc); go_simp)
  simp only [List.getElem_toArray, List.getElem_cons_succ, List.getElem_cons_zero, Act.put, List.setIfInBounds_toArray, List.set_cons_zero, List.set_cons_succ]
  refine wpAnyH_take (i := 4) (v := .slice (some ⟨b, off, none⟩) l.length cap) rfl (by kernel_rfl) (by kernel_rfl) (by kernel_rfl) (fun _ _ _ h => h) (Or.inl ⟨by rfl, ?_⟩) (by assumption) ?_
  · (intro w1 hSw; (try dsimp only at hSw); go_simp)
  simp only [List.getElem_toArray, List.getElem_cons_succ, List.getElem_cons_zero, Act.put, List.setIfInBounds_toArray, List.set_cons_zero, List.set_cons_succ]
  refine wpAnyH_take (i := 5) (v := .slice (some ⟨b, off + 1, none⟩) (l.length - 1) (cap - 1)) rfl (by kernel_rfl) (by kernel_rfl) (by kernel_rfl) (fun _ _ _ h => h) (Or.inl ⟨by rfl, ?_⟩) (by assumption) ?_
  · (intro w1 hSw; (try dsimp only at hSw); go_simp)
  simp only [List.getElem_toArray, List.getElem_cons_succ, List.getElem_cons_zero, Act.put, List.setIfInBounds_toArray, List.set_cons_zero, List.set_cons_succ]
  refine wpAnyH_ready (rs := [6]) (by kernel_rfl) (by simp) ?_
  refine AllReadyH.cons (o := _) rfl (fun K hK => ?_) AllReadyH.nil
  obtain ⟨hbh, hch, L1, hOL⟩ := id hHeld
  refine wp_copy _ _ (by rfl) w.heap.size w.heap.size (l.length - 1) 0 (l.length - 1) L1 (l.drop 1) _ (by omega) (by rfl) (by rfl) hOL (HRD.out _ hbh) (by rw [HDL.out]; omega) (by rw [HDL.out]; omega) ?_
  intro w4 HO4 HB4 HG4
  rw [List.take_zero, List.nil_append] at HO4
  have HC4 : Hid (w4.heap[w2.heap.size]? = some (.cells #[.int .i64 (h : Int), .slice (some ⟨w.heap.size, 0, none⟩) (l.length - 1) (l.length - 1)] 125)) := (HG4.out.block _ (Array.getElem?_eq_some_iff.1 hch).1 (by simp; omega)).trans hch
  have HB5 : Hid (Below w.heap.size w w4) := hbh.trans HB4.out
  simp only [List.getElem_toArray, List.getElem_cons_succ, List.getElem_cons_zero, Act.put, List.setIfInBounds_toArray, List.set_cons_zero, List.set_cons_succ]
  refine hK.out _ _ ?_ (fun hHeld => ?_)
  · exact ⟨HB5.out, HC4.out, _, HO4⟩
  clear hK K
  clear hHeld
  refine wpAnyH_done (by kernel_rfl) ?_ _
  refine NoPanic.normal ?_
  go_wp2_with fail
  go_ret2
  have hB2s := HB2.out.size
  refine ⟨_, rfl, ⟨w2.heap.size, w.heap.size, l.length - 1, rfl, hB2s, ?_, ?_, by omega, h3, h4, by rw [HDL.out]; omega, by rw [HDL.out]; omega⟩, HB5.out⟩
  · rw [HDL.out]; exact HC4.out
  · rw [HDL.out]; exact HO4
theorem read_no (v : Value) (l : List UInt8) (w : World) (hR : Reads w v l) (hno : ¬ rdOk l) :
    Calls Try.prog 36 #[v] w fun e w' => e = .returned (.tuple #[.pointer none, .int .i64 3]) ∧ w' = w := by
  by_cases h1 : l.length < 2
  · obtain ⟨a, cap, rfl, _⟩ := hR.form
    have i1 : (l.length : Int) < 2 := by omega
    clear hR
    go_enter Try.func36, Try.ntmps36
    go_wp2_with fail
    go_ret2
    exact ⟨rfl, rfl⟩
  · have i1 : ¬ (l.length : Int) < 2 := by omega
    by_cases h2 : 8193 < l.length
    · obtain ⟨a, cap, rfl, _⟩ := hR.form
      have i2 : (8193 : Int) < (l.length : Int) := by omega
      clear hR
      go_enter Try.func36, Try.ntmps36
      go_wp2_with fail
      go_ret2
      exact ⟨rfl, rfl⟩
    · have i2 : ¬ (8193 : Int) < (l.length : Int) := by omega
      obtain ⟨h, Hh⟩ := hid_ex (l.getD 0 0).toNat
      rcases hR with ⟨rfl, _⟩ | ⟨b, off, cap, rfl, r2, r3, r4, r5, r6⟩
      · simp at h1
      have c0 := r6 0 (by omega)
      have e0 : bc l[0] = .int .u8 (h : Int) := by
        rw [Hh.out]; simp [bc, List.getD, List.getElem?_eq_getElem (show 0 < l.length by omega)]
      rw [e0, Nat.add_zero] at c0
      unfold maxLen at r4
      have hlt : h < 256 := by rw [Hh.out]; exact UInt8.toNat_lt _
      have HM : Hid _ := mayHash_any (h : Int)
      have em : decide (1 ≤ (h : Int) ∧ (h : Int) ≤ 8) = false := by
        simp only [decide_eq_false_iff_not]
        intro hx
        exact hno ⟨by omega, by omega, by rw [← Hh.out]; omega, by rw [← Hh.out]; omega⟩
      rw [em] at HM
      clear em r6 e0 hno
      go_enter Try.func36, Try.ntmps36
      go_wp2_with fail
      refine (HM.out _).mono ?_
      rintro e w' ⟨rfl, hw⟩
      subst w'
      go_wp2_with fail
      go_ret2
      exact ⟨rfl, rfl⟩
theorem read_any_B (v : Value) (l : List UInt8) (w : World) (hR : Reads w v l) : Calls Try.prog 36 #[v] w fun e w' =>
    (∃ v', e = .returned (.tuple #[v', .int .i64 0]) ∧ rdOk l ∧ Fil w' w.heap.size v' (l.getD 0 0).toNat (l.drop 1) ∧ Below w.heap.size w w') ∨ (e = .returned (.tuple #[.pointer none, .int .i64 3]) ∧ ¬ rdOk l ∧ w' = w) := by
  by_cases hok : rdOk l
  · refine (read_ok v l w hR hok).mono ?_
    rintro e w' ⟨v', rfl, hf, hb⟩
    exact .inl ⟨v', rfl, hok, hf, hb⟩
  · refine (read_no v l w hR hok).mono ?_
    rintro e w' ⟨rfl, rfl⟩
    exact .inr ⟨rfl, hok, rfl⟩
end Go.Proofs.Ytlpjdfgknmfmnaa

/- The contracts of the reference's Read and Fit. -/
namespace Go.Proofs.Ytlpjdfgknmfmnaa
open Go.RowKit

set_option maxRecDepth 100000 in
set_option maxHeartbeats 1000000 in
theorem refFit_any_B (k : Int) (w : World) : Calls Try.prog 24 #[.int .i64 k] w fun e w' => e = .returned (.tuple #[.int .i64 (fitF k).1, .int .i64 (fitF k).2.1, .int .i64 (fitF k).2.2]) ∧ w' = w := by
  unfold fitF
  by_cases h1 : k < 0
  · rw [if_pos h1]
    go_enter Try.func24, Try.ntmps24
    go_wp2_with fail
    go_ret3
    exact ⟨rfl, rfl⟩
  · rw [if_neg h1]
    by_cases h2 : 6553 < k
    · rw [if_pos h2]
      go_enter Try.func24, Try.ntmps24
      go_wp2_with fail
      go_ret3
      exact ⟨rfl, rfl⟩
    · rw [if_neg h2]
      obtain ⟨z, Hz⟩ := hid_ex (8 * max ((10 * k + 7) / 8) 1)
      have hz1 : 10 * k ≤ z ∧ z < 10 * k + 9 ∧ 8 ≤ z ∧ z % 8 = 0 ∧ (z < 10 * k + 8 ∨ z = 8) := by rw [Hz.out]; omega
      show Calls Try.prog _ _ _ fun e w' => e = .returned (.tuple #[.int .i64 (8 * max ((10 * k + 7) / 8) 1), .int .i64 6, .int .i64 0]) ∧ w' = w
      rw [← Hz.out]
      go_enter Try.func24, Try.ntmps24
      go_wp2_with fail
      go_loop [5] (fun i => ∃ n : Int, i = .int .i64 n ∧ 10 * k ≤ n ∧ n ≤ z) (fun i => (z - intOf i).toNat)
      case atStart => exact ⟨10 * k, rfl, by omega, by omega⟩
      case round =>
        obtain ⟨n, rfl, hn1, hn2⟩ := hrel
        have et : n.tmod 8 = n % 8 := Int.tmod_eq_emod_of_nonneg (by omega)
        by_cases g1 : 0 < n.tmod 8
        · have hlt : n < z := by omega
          clear et
          go_wp2_with fail
          all_goals exact ⟨⟨n + 1, rfl, by omega, by omega⟩, by simp [intOf]; omega⟩
        · by_cases g2 : n < 8
          · have hlt : n < z := by omega
            clear et
            go_wp2_with fail
            all_goals exact ⟨⟨n + 1, rfl, by omega, by omega⟩, by simp [intOf]; omega⟩
          · have he : n = z := by omega
            subst he
            clear et
            go_wp2_with fail
            go_ret3
            exact ⟨rfl, rfl⟩
end Go.Proofs.Ytlpjdfgknmfmnaa
