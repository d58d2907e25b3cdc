/- The contracts of a filter's Write and Read. -/
import Derived.Test.YtgdjjpnejdedhaaB7
import Derived.Test.YtgdjjpnejdedhaaCP0
namespace Go.Proofs.Ytgdjjpnejdedhaa
open Go.RowKit

set_option maxRecDepth 100000 in
set_option maxHeartbeats 1000000 in
theorem write_any (v : Value) (h : Nat) (D : List UInt8) (w : World) (base : Nat) (hF : Fil w base v h D) :
    Calls Try.prog 17 #[v] w fun e w' => ∃ v', e = .returned (.tuple #[v', .int .i64 0]) ∧ Own w' w.heap.size v' (UInt8.ofNat h :: D) ∧ Below w.heap.size w w' := by
  obtain ⟨B, g, cap, rfl, hB, hc, hO, hBg, hh1, hh8, hD0, hD1⟩ := id hF
  have HF : Hid (Fil w base (.pointer (some ⟨B, 0, none⟩)) h D) := hF
  have HDn : Hid (¬ D = []) := fun e => by rw [e] at hD0; simp at hD0
  have hBlt := (Array.getElem?_eq_some_iff.1 hc).1
  have c0 := cell_of hc 0 (by simp)
  have c1 := cell_of hc 1 (by simp)
  simp at c0 c1
  have HO : Hid (Own w base (.slice (some ⟨g, 0, none⟩) D.length cap) D) := hO
  obtain ⟨i0, hi, hz0, hz1, hz2⟩ := info_parts info5
  obtain ⟨w2, hrn, hown2, hg2⟩ := run_make_full (P := Try.prog) w w.heap.size 33 5 i0 (.int .u8 0) 1 Try.underlying33 hi hz0 hz1 .i64 .i64 (1 + D.length) (by rw [hz2]; omega) (by unfold maxLen; omega) (Nat.le_refl _)
  have e2 : ((1 + D.length : Nat) : Int) = 1 + (D.length : Int) := by omega
  rw [e2] at hrn
  rw [Nat.mul_one] at hown2
  have hO2 := own_zeros hown2
  have HB2 : Hid (Below w.heap.size w w2) := (Below.refl _ _).grown hg2 (Nat.le_refl _) (fun k hk => by cases hk)
  have c20 : w2.cell? ⟨B, 0, none⟩ = some (.int .i64 (h : Int)) := (HB2.out.cell (p := ⟨B, 0, none⟩) hBlt).trans c0
  have c21 : w2.cell? ⟨B, 1, none⟩ = some (.slice (some ⟨g, 0, none⟩) D.length cap) := (HB2.out.cell (p := ⟨B, 1, none⟩) hBlt).trans c1
  obtain ⟨_, hfz⟩ := hO2.at 0 (by simp; omega)
  obtain ⟨cz, _⟩ := hO2.at 0 (by simp; omega)
  obtain ⟨hO3, hB3⟩ := hO2.stored 0 (UInt8.ofNat h)
  have hbc : bc (UInt8.ofNat h) = .int .u8 (h : Int) := by unfold bc; rw [UInt8.toNat_ofNat', Nat.mod_eq_of_lt (by omega)]
  rw [hbc] at hO3 hB3
  obtain ⟨w3, HW3⟩ := hid_ex (w2.setCell ⟨w.heap.size, 0, none⟩ (.int .u8 (h : Int)))
  rw [← HW3.out] at hO3 hB3
  have HB3 : Hid (Below w.heap.size w w3) := HB2.out.trans hB3
  have c31 : w3.cell? ⟨B, 1, none⟩ = some (.slice (some ⟨g, 0, none⟩) D.length cap) := (HB3.out.cell (p := ⟨B, 1, none⟩) hBlt).trans c1
  have HO3 : Hid (Own w3 w.heap.size (.slice (some ⟨w.heap.size, 0, none⟩) (1 + D.length) (1 + D.length)) ((List.replicate (1 + D.length) (0 : UInt8)).set 0 (UInt8.ofNat h))) := hO3
  have HT1 : Hid (((List.replicate (1 + D.length) (0 : UInt8)).set 0 (UInt8.ofNat h)).take 1 = [UInt8.ofNat h]) := by unfold Hid; rw [Nat.add_comm, List.replicate_succ]; rfl
  clear hF hc hO hown2 hg2 hO2 hO3 hB3 e2 hi hz0 hz1 hz2
  go_enter Try.func17, Try.ntmps17
  go_wp2_with fail
  refine (made_any HF.out).mono ?_
  rintro e w' ⟨rfl, hw⟩
  subst w'
  go_wp2_with fail
  rw [← HW3.out]
  refine wp_region_noPanic ?_
  refine wp_region_held_drew (S := (fun w' => w'.cell? ⟨B, 1, none⟩ = some (.slice (some ⟨g, 0, none⟩) D.length cap) ∧ (∃ L : List UInt8, L.take 1 = [UInt8.ofNat h] ∧ Own w' w.heap.size (.slice (some ⟨w.heap.size, 0, none⟩) (1 + D.length) (1 + D.length)) L) ∧ Below w.heap.size w w')) (by kernel_rfl) ?_ (fun hHeld => ?_)
  · exact ⟨c31, ⟨_, HT1.out, HO3.out⟩, HB3.out.drew⟩
  refine wpAnyH_take (i := 0) (v := .slice (some ⟨w.heap.size, 0, none⟩) (1 + D.length) (1 + D.length)) rfl (by kernel_rfl) (by kernel_rfl) (by kernel_rfl) (fun _ _ _ h => h) (Or.inl ⟨by rfl, ?_⟩) (by assumption) ?_
  · (intro w1 hSw; (try dsimp only at hSw); go_simp)
  simp only [List.getElem_toArray, List.getElem_cons_zero, Act.put, List.setIfInBounds_toArray, List.set_cons_zero, List.set_cons_succ]
  refine wpAnyH_take (i := 1) (v := .slice (some ⟨w.heap.size, 1, none⟩) D.length D.length) rfl (by kernel_rfl) (by kernel_rfl) (by kernel_rfl) (fun _ _ _ h => h) (Or.inl ⟨by rfl, ?_⟩) (by assumption) ?_
  · (intro w1 hSw; (try dsimp only at hSw); go_simp; rw [if_pos (by omega), if_neg HDn.out])
  simp only [List.getElem_toArray, List.getElem_cons_succ, List.getElem_cons_zero, Act.put, List.setIfInBounds_toArray, List.set_cons_zero, List.set_cons_succ]
  refine wpAnyH_take (i := 2) (v := .pointer (some ⟨B, 0, none⟩)) rfl (by kernel_rfl) (by kernel_rfl) (by kernel_rfl) (fun _ _ _ h => h) (Or.inl ⟨by rfl, ?_⟩) (by assumption) ?_
  · (intro w1 hSw; (try dsimp only at hSw); go_simp)
  simp only [List.getElem_toArray, List.getElem_cons_succ, List.getElem_cons_zero, Act.put, List.setIfInBounds_toArray, List.set_cons_zero, List.set_cons_succ]
  refine wpAnyH_take (i := 3) (v := .pointer (some ⟨B, 0, none⟩)) rfl (by kernel_rfl) (by kernel_rfl) (by kernel_rfl) (fun _ _ _ h => h) (Or.inl ⟨by rfl, ?_⟩) (by assumption) ?_
  · (intro w1 hSw; (try dsimp only at hSw); go_simp)
  simp only [List.getElem_toArray, List.getElem_cons_succ, List.getElem_cons_zero, Act.put, List.setIfInBounds_toArray, List.set_cons_zero, List.set_cons_succ]
  refine wpAnyH_take (i := 4) (v := .pointer (some ⟨B, 1, none⟩)) rfl (by kernel_rfl) (by kernel_rfl) (by kernel_rfl) (fun _ _ _ h => h) (Or.inl ⟨by rfl, ?_⟩) (by assumption) ?_
  · (intro w1 hSw; (try dsimp only at hSw); go_simp)
  simp only [List.getElem_toArray, List.getElem_cons_succ, List.getElem_cons_zero, Act.put, List.setIfInBounds_toArray, List.set_cons_zero, List.set_cons_succ]
  refine wpAnyH_take (i := 5) (v := .slice (some ⟨g, 0, none⟩) D.length cap) rfl (by kernel_rfl) (by kernel_rfl) (by kernel_rfl) (fun _ _ _ h => h) (Or.inl ⟨by rfl, ?_⟩) (by assumption) ?_
  · (intro w1 hSw; (try dsimp only at hSw); have hcc := hSw.1; go_simp)
  simp only [List.getElem_toArray, List.getElem_cons_succ, List.getElem_cons_zero, Act.put, List.setIfInBounds_toArray, List.set_cons_zero, List.set_cons_succ]
  refine wpAnyH_ready (rs := [6]) (by kernel_rfl) (by simp) ?_
  refine AllReadyH.cons (o := _) rfl (fun K hK => ?_) AllReadyH.nil
  obtain ⟨L1, hL1, hOL⟩ := hHeld.2.1
  refine wp_copy _ _ (by rfl) w.heap.size w.heap.size (1 + D.length) 1 D.length L1 D _ (by omega) (by rfl) (by rfl) hOL (HO.out.reads.below hHeld.2.2) hD0 rfl ?_
  intro w4 HO4 HB4 _
  rw [hL1] at HO4
  simp only [List.getElem_toArray, List.getElem_cons_succ, List.getElem_cons_zero, Act.put, List.setIfInBounds_toArray, List.set_cons_zero, List.set_cons_succ]
  refine hK.out _ _ ?_ (fun hHeld => ?_)
  · exact ⟨(HB4.out.cell (p := ⟨B, 1, none⟩) (Nat.lt_of_lt_of_le hBlt (Nat.le_refl _))).trans hHeld.1, ⟨_, rfl, HO4⟩, hHeld.2.2.trans HB4.out⟩
  clear hK K
  refine wpAnyH_done (by kernel_rfl) ?_ _
  refine NoPanic.normal ?_
  have HB5 : Hid (Below w.heap.size w w4) := hHeld.2.2
  clear hHeld
  go_wp2_with fail
  go_ret2
  exact ⟨_, rfl, HO4, HB5.out⟩
end Go.Proofs.Ytgdjjpnejdedhaa
