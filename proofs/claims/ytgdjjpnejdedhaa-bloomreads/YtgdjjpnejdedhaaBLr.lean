/- The walk of BloomReads. -/
import Derived.Test.YtgdjjpnejdedhaaRB7
namespace Go.Proofs.Ytgdjjpnejdedhaa
open Go.RowKit

set_option maxRecDepth 100000 in
set_option maxHeartbeats 2000000 in
theorem reads_walk (v : Value) (l : List UInt8) (qv : Value) (Q : List (List UInt8)) (n : Int) (w : World) (hR : Reads w v l) (hQ : LReads w qv Q) :
    Calls Try.prog 4 #[v, qv, .int .i64 n] w fun e w' => e = .returned (.bool true) ∧ Below w.heap.size w w' := by
  have HR : Hid (Reads w v l) := hR
  have HQ : Hid (LReads w qv Q) := hQ
  obtain ⟨a, cap, rfl, _⟩ := hR.form
  obtain ⟨aq, capq, rfl, hcapq, hmq, hQ3⟩ := hQ
  unfold maxLen at hmq
  have HQ3 : Hid _ := hQ3
  clear hQ3 hR
  go_enter Try.func4, Try.ntmps4
  go_wp2_with fail
  refine (long_any _ Q _ HQ.out).mono ?_
  rintro e w1 ⟨rfl, hw1⟩
  subst w1
  cases hlq : lgF Q
  · have HQS : Hid (∀ l ∈ Q, l.length ≤ 300) := (lg_no hlq).2
    have hQ100 := (lg_no hlq).1
    by_cases g1 : 300 < l.length ∧ l.length < 8190
    · have g1a : (300 : Int) < (l.length : Int) := by omega
      have g1b : (l.length : Int) < 8190 := by omega
      go_wp2_with fail
      refine (alive_any _).mono ?_
      rintro e w4 ⟨rfl, hb4⟩
      go_wp2_with fail
      go_ret
      exact ⟨rfl, hb4⟩
    by_cases g2 : 9000 < l.length
    · have g1a : (300 : Int) < (l.length : Int) := by omega
      have g1b : ¬ (l.length : Int) < 8190 := by omega
      have g1c : (9000 : Int) < (l.length : Int) := by omega
      go_wp2_with fail
      refine (alive_any _).mono ?_
      rintro e w4 ⟨rfl, hb4⟩
      go_wp2_with fail
      go_ret
      exact ⟨rfl, hb4⟩
    have g3 : ¬ (9000 : Int) < (l.length : Int) := by omega
    rcases (by omega : ¬ (300 : Int) < (l.length : Int) ∨ ((300 : Int) < (l.length : Int) ∧ ¬ (l.length : Int) < 8190)) with g4 | ⟨g4, g5⟩
    · clear g1 g2
      by_cases hok : rdOk l
      · go_wp2_with fail
        refine (read_ok _ l _ HR.out hok).mono ?_
        rintro e w1 ⟨v1, rfl, hf1, hb1⟩
        obtain ⟨B, rfl⟩ := hf1.ptr
        have HB1 : Hid (Below w.heap.size w w1) := hb1
        obtain ⟨hn, Hhn⟩ := hid_ex (l.getD 0 0).toNat
        obtain ⟨E, HE⟩ := hid_ex (l.drop 1)
        rw [← Hhn.out, ← HE.out] at hf1
        have HF1 : Hid (Fil w1 w.heap.size (.pointer (some ⟨B, 0, none⟩)) hn E) := hf1
        clear hf1 hb1
        go_wp2_with fail
        refine (refRead_ok _ l _ (HR.out.below HB1.out) hok).mono ?_
        rintro e w2 ⟨v2, rfl, hf2, hb2⟩
        obtain ⟨B2, rfl⟩ := hf2.ptr
        rw [← Hhn.out, ← HE.out] at hf2
        have HX2 : Hid (RF w2 w1.heap.size (.pointer (some ⟨B2, 0, none⟩)) hn (dgs E)) := hf2
        have HF2 : Hid (Fil w2 w.heap.size (.pointer (some ⟨B, 0, none⟩)) hn E) := HF1.out.below hb2
        have HB2 : Hid (Below w.heap.size w w2) := HB1.out.trans (hb2.mono HB1.out.size)
        clear hf2 hb2 HF1 HB1 Hhn HE hok
        go_wp2_with fail
        refine (fit_any n _).mono ?_
        rintro e w3 ⟨rfl, hw3⟩
        subst w3
        go_wp2_with fail
        refine (refFit_any n _).mono ?_
        rintro e w3 ⟨rfl, hw3⟩
        subst w3
        obtain ⟨p1, Hp1⟩ := hid_ex (fitF n).1
        obtain ⟨p2, Hp2⟩ := hid_ex (fitF n).2.1
        obtain ⟨p3, Hp3⟩ := hid_ex (fitF n).2.2
        rw [← Hp1.out, ← Hp2.out, ← Hp3.out]
        clear Hp1 Hp2 Hp3
        go_wp2_with fail
        go_loopw [17] (fun i wr => ∃ k : Nat, k ≤ Q.length ∧ i = .int .i64 (k : Int) ∧ Hid (Fil wr w.heap.size (.pointer (some ⟨B, 0, none⟩)) hn E) ∧ Hid (RF wr w1.heap.size (.pointer (some ⟨B2, 0, none⟩)) hn (dgs E)) ∧ Hid (Below w.heap.size w wr)) (fun i _ => Q.length - (intOf i).toNat)
        case atStart => exact ⟨0, by omega, rfl, HF2, HX2, HB2⟩
        case round =>
          clear HF2 HX2 HB2
          obtain ⟨k, hk, rfl, HF, HX, HB⟩ := hrel
          by_cases hlt : k < Q.length
          · obtain ⟨bA, oA, rfl, hbA, hA⟩ := HQ3.out.resolve_left (fun h => by rw [h] at hlt; simp at hlt)
            obtain ⟨vx, hx1, hx2⟩ := hA k hlt
            obtain ⟨X, HXk⟩ := hid_ex Q[k]
            rw [← HXk.out] at hx2
            obtain ⟨ax, cx, rfl, _⟩ := hx2.form
            have hX300 : X.length ≤ 300 := by rw [HXk.out]; exact HQS.out _ (List.getElem_mem hlt)
            have hcx := (HB.out.cell (p := ⟨bA, oA + k, none⟩) hbA).trans hx1
            have HC1 : Hid (w.cell? ⟨bA, oA + k, none⟩ = some (.slice ax X.length cx)) := hx1
            have HRX : Hid (Reads w (.slice ax X.length cx) X) := hx2
            clear hA hx1 hx2 HXk
            go_wp2_with fail
            obtain ⟨m, Hm⟩ := hid_ex (myF E (plc X (8 * E.length) hn))
            refine wp_region_noPanic ?_
            refine wp_region_held_drew (S := (fun w' => Below wr.heap.size wr w')) (by kernel_rfl) ?_ (fun hHeld => ?_)
            · exact (Below.refl _ _).drew
            refine wpAnyH_take (i := 0) (v := .pointer (some ⟨B, 0, none⟩)) rfl (by kernel_rfl) (by kernel_rfl) (by kernel_rfl) (fun _ _ _ h => h) (Or.inl ⟨by rfl, ?_⟩) (by assumption) ?_
            · (intro w1 hSw; (try dsimp only at hSw); go_simp)
            simp only [List.getElem_toArray, List.getElem_cons_zero, Act.put, List.setIfInBounds_toArray, List.set_cons_zero, List.set_cons_succ]
            refine wpAnyH_take (i := 1) (v := .slice (some ⟨bA, oA, none⟩) Q.length capq) rfl (by kernel_rfl) (by kernel_rfl) (by kernel_rfl) (fun _ _ _ h => h) (Or.inl ⟨by rfl, ?_⟩) (by assumption) ?_
            · (intro w1 hSw; (try dsimp only at hSw); go_simp)
            simp only [List.getElem_toArray, List.getElem_cons_succ, List.getElem_cons_zero, Act.put, List.setIfInBounds_toArray, List.set_cons_zero, List.set_cons_succ]
            refine wpAnyH_take (i := 2) (v := .int .i64 (k : Int)) rfl (by kernel_rfl) (by kernel_rfl) (by kernel_rfl) (fun _ _ _ h => h) (Or.inl ⟨by rfl, ?_⟩) (by assumption) ?_
            · (intro w1 hSw; (try dsimp only at hSw); go_simp)
            simp only [List.getElem_toArray, List.getElem_cons_succ, List.getElem_cons_zero, Act.put, List.setIfInBounds_toArray, List.set_cons_zero, List.set_cons_succ]
            refine wpAnyH_take (i := 3) (v := .pointer (some ⟨bA, oA + k, none⟩)) rfl (by kernel_rfl) (by kernel_rfl) (by kernel_rfl) (fun _ _ _ h => h) (Or.inl ⟨by rfl, ?_⟩) (by assumption) ?_
            · (intro w1 hSw; (try dsimp only at hSw); go_simp)
            simp only [List.getElem_toArray, List.getElem_cons_succ, List.getElem_cons_zero, Act.put, List.setIfInBounds_toArray, List.set_cons_zero, List.set_cons_succ]
            refine wpAnyH_take (i := 4) (v := .slice ax X.length cx) rfl (by kernel_rfl) (by kernel_rfl) (by kernel_rfl) (fun _ _ _ h => h) (Or.inl ⟨by rfl, ?_⟩) (by assumption) ?_
            · (intro w1 hSw; (try dsimp only at hSw); have hcc := ((HB.out.trans (hSw.mono HB.out.size)).cell (p := ⟨bA, oA + k, none⟩) hbA).trans HC1.out; go_simp)
            simp only [List.getElem_toArray, List.getElem_cons_succ, List.getElem_cons_zero, Act.put, List.setIfInBounds_toArray, List.set_cons_zero, List.set_cons_succ]
            refine wpAnyH_take (i := 6) (v := .pointer (some ⟨B2, 0, none⟩)) rfl (by kernel_rfl) (by kernel_rfl) (by kernel_rfl) (fun _ _ _ h => h) (Or.inl ⟨by rfl, ?_⟩) (by assumption) ?_
            · (intro w1 hSw; (try dsimp only at hSw); go_simp)
            simp only [List.getElem_toArray, List.getElem_cons_succ, List.getElem_cons_zero, Act.put, List.setIfInBounds_toArray, List.set_cons_zero, List.set_cons_succ]
            refine wpAnyH_take (i := 7) (v := .slice (some ⟨bA, oA, none⟩) Q.length capq) rfl (by kernel_rfl) (by kernel_rfl) (by kernel_rfl) (fun _ _ _ h => h) (Or.inl ⟨by rfl, ?_⟩) (by assumption) ?_
            · (intro w1 hSw; (try dsimp only at hSw); go_simp)
            simp only [List.getElem_toArray, List.getElem_cons_succ, List.getElem_cons_zero, Act.put, List.setIfInBounds_toArray, List.set_cons_zero, List.set_cons_succ]
            refine wpAnyH_take (i := 8) (v := .int .i64 (k : Int)) rfl (by kernel_rfl) (by kernel_rfl) (by kernel_rfl) (fun _ _ _ h => h) (Or.inl ⟨by rfl, ?_⟩) (by assumption) ?_
            · (intro w1 hSw; (try dsimp only at hSw); go_simp)
            simp only [List.getElem_toArray, List.getElem_cons_succ, List.getElem_cons_zero, Act.put, List.setIfInBounds_toArray, List.set_cons_zero, List.set_cons_succ]
            refine wpAnyH_take (i := 9) (v := .pointer (some ⟨bA, oA + k, none⟩)) rfl (by kernel_rfl) (by kernel_rfl) (by kernel_rfl) (fun _ _ _ h => h) (Or.inl ⟨by rfl, ?_⟩) (by assumption) ?_
            · (intro w1 hSw; (try dsimp only at hSw); go_simp)
            simp only [List.getElem_toArray, List.getElem_cons_succ, List.getElem_cons_zero, Act.put, List.setIfInBounds_toArray, List.set_cons_zero, List.set_cons_succ]
            refine wpAnyH_take (i := 10) (v := .slice ax X.length cx) rfl (by kernel_rfl) (by kernel_rfl) (by kernel_rfl) (fun _ _ _ h => h) (Or.inl ⟨by rfl, ?_⟩) (by assumption) ?_
            · (intro w1 hSw; (try dsimp only at hSw); have hcc := ((HB.out.trans (hSw.mono HB.out.size)).cell (p := ⟨bA, oA + k, none⟩) hbA).trans HC1.out; go_simp)
            simp only [List.getElem_toArray, List.getElem_cons_succ, List.getElem_cons_zero, Act.put, List.setIfInBounds_toArray, List.set_cons_zero, List.set_cons_succ]
            refine wpAnyH_ready (rs := [5]) (by kernel_rfl) (by simp) ?_
            refine AllReadyH.cons (o := _) rfl (fun K hK => ?_) AllReadyH.nil
            go_simp
            refine (may_any _ _ _ E X wr.drew _ (HF.out.below (Below.refl wr.heap.size wr).drew) (HRX.out.below HB.out.drew)).mono ?_
            rintro e w3 ⟨rfl, hb3⟩
            have HB3 : Hid (Below wr.heap.size wr w3) := (Below.refl wr.heap.size wr).drew.trans hb3
            rw [← Hm.out]
            clear hb3
            refine hK.out _ _ ?_ (fun hHeld => ?_)
            · exact HB3.out
            clear hK K
            refine wpAnyH_ready (rs := [11]) (by kernel_rfl) (by simp) ?_
            refine AllReadyH.cons (o := _) rfl (fun K hK => ?_) AllReadyH.nil
            go_simp
            refine (refMay_any _ _ _ E X (by omega) w3 _ (HX.out.below HB3.out) (HRX.out.below (HB.out.trans (HB3.out.mono HB.out.size)))).mono ?_
            rintro e w4 ⟨rfl, hb4⟩
            have HB4 : Hid (Below wr.heap.size wr w4) := HB3.out.trans (hb4.mono HB3.out.size)
            rw [← Hm.out]
            clear hb4
            refine hK.out _ _ ?_ (fun hHeld => ?_)
            · exact HB4.out
            clear hK K
            refine wpAnyH_take (i := 12) (v := .bool false) rfl (by kernel_rfl) (by kernel_rfl) (by kernel_rfl) (fun _ _ _ h => h) (Or.inl ⟨by rfl, ?_⟩) (by assumption) ?_
            · (intro w1 hSw; (try dsimp only at hSw); go_simp)
            simp only [List.getElem_toArray, List.getElem_cons_succ, List.getElem_cons_zero, Act.put, List.setIfInBounds_toArray, List.set_cons_zero, List.set_cons_succ]
            refine wpAnyH_done (by kernel_rfl) ?_ _
            refine NoPanic.normal ?_
            have HF4 : Hid (Fil w4 w.heap.size (.pointer (some ⟨B, 0, none⟩)) hn E) := HF.out.below HB4.out
            have HX4 : Hid (RF w4 w1.heap.size (.pointer (some ⟨B2, 0, none⟩)) hn (dgs E)) := HX.out.below HB4.out
            have HB5 : Hid (Below w.heap.size w w4) := HB.out.trans (HB4.out.mono HB.out.size)
            clear hHeld HB3 HB4 HF HX HB hcx HC1
            go_wp2_with fail
            go_roundw
            case rel => exact ⟨k + 1, by omega, by go_num, HF4, HX4, HB5⟩
            case measure => simp [intOf]; omega
          · go_wp2_with fail
            refine (alive_any _).mono ?_
            rintro e w4 ⟨rfl, hb4⟩
            have HB4 : Hid (Below w.heap.size w w4) := HB.out.trans (hb4.mono HB.out.size)
            clear hb4
            go_wp2_with fail
            go_ret
            exact ⟨rfl, HB4.out⟩
      · go_wp2_with fail
        refine (read_no _ l _ HR.out hok).mono ?_
        rintro e w1 ⟨rfl, hw1⟩
        subst w1
        go_wp2_with fail
        refine (refRead_no _ l _ HR.out hok).mono ?_
        rintro e w1 ⟨rfl, hw1⟩
        subst w1
        go_wp2_with fail
        refine (fit_any n _).mono ?_
        rintro e w3 ⟨rfl, hw3⟩
        subst w3
        go_wp2_with fail
        refine (refFit_any n _).mono ?_
        rintro e w3 ⟨rfl, hw3⟩
        subst w3
        obtain ⟨p1, Hp1⟩ := hid_ex (fitF n).1
        obtain ⟨p2, Hp2⟩ := hid_ex (fitF n).2.1
        obtain ⟨p3, Hp3⟩ := hid_ex (fitF n).2.2
        rw [← Hp1.out, ← Hp2.out, ← Hp3.out]
        clear Hp1 Hp2 Hp3
        go_wp2_with fail
        go_loopw [17] (fun i wr => i = .int .i64 0 ∧ wr = w) (fun _ _ => 0)
        case atStart => exact ⟨rfl, rfl⟩
        case round =>
          obtain ⟨rfl, hwr⟩ := hrel
          subst wr
          by_cases hq0 : (0 : Int) < (Q.length : Int)
          · go_wp2_with fail
            refine (alive_any _).mono ?_
            rintro e w4 ⟨rfl, hb4⟩
            go_wp2_with fail
            go_ret
            exact ⟨rfl, hb4⟩
          · go_wp2_with fail
            refine (alive_any _).mono ?_
            rintro e w4 ⟨rfl, hb4⟩
            go_wp2_with fail
            go_ret
            exact ⟨rfl, hb4⟩
    · clear g1 g2
      by_cases hok : rdOk l
      · go_wp2_with fail
        refine (read_ok _ l _ HR.out hok).mono ?_
        rintro e w1 ⟨v1, rfl, hf1, hb1⟩
        obtain ⟨B, rfl⟩ := hf1.ptr
        have HB1 : Hid (Below w.heap.size w w1) := hb1
        obtain ⟨hn, Hhn⟩ := hid_ex (l.getD 0 0).toNat
        obtain ⟨E, HE⟩ := hid_ex (l.drop 1)
        rw [← Hhn.out, ← HE.out] at hf1
        have HF1 : Hid (Fil w1 w.heap.size (.pointer (some ⟨B, 0, none⟩)) hn E) := hf1
        clear hf1 hb1
        go_wp2_with fail
        refine (refRead_ok _ l _ (HR.out.below HB1.out) hok).mono ?_
        rintro e w2 ⟨v2, rfl, hf2, hb2⟩
        obtain ⟨B2, rfl⟩ := hf2.ptr
        rw [← Hhn.out, ← HE.out] at hf2
        have HX2 : Hid (RF w2 w1.heap.size (.pointer (some ⟨B2, 0, none⟩)) hn (dgs E)) := hf2
        have HF2 : Hid (Fil w2 w.heap.size (.pointer (some ⟨B, 0, none⟩)) hn E) := HF1.out.below hb2
        have HB2 : Hid (Below w.heap.size w w2) := HB1.out.trans (hb2.mono HB1.out.size)
        clear hf2 hb2 HF1 HB1 Hhn HE hok
        go_wp2_with fail
        refine (fit_any n _).mono ?_
        rintro e w3 ⟨rfl, hw3⟩
        subst w3
        go_wp2_with fail
        refine (refFit_any n _).mono ?_
        rintro e w3 ⟨rfl, hw3⟩
        subst w3
        obtain ⟨p1, Hp1⟩ := hid_ex (fitF n).1
        obtain ⟨p2, Hp2⟩ := hid_ex (fitF n).2.1
        obtain ⟨p3, Hp3⟩ := hid_ex (fitF n).2.2
        rw [← Hp1.out, ← Hp2.out, ← Hp3.out]
        clear Hp1 Hp2 Hp3
        go_wp2_with fail
        go_loopw [17] (fun i wr => ∃ k : Nat, k ≤ Q.length ∧ i = .int .i64 (k : Int) ∧ Hid (Fil wr w.heap.size (.pointer (some ⟨B, 0, none⟩)) hn E) ∧ Hid (RF wr w1.heap.size (.pointer (some ⟨B2, 0, none⟩)) hn (dgs E)) ∧ Hid (Below w.heap.size w wr)) (fun i _ => Q.length - (intOf i).toNat)
        case atStart => exact ⟨0, by omega, rfl, HF2, HX2, HB2⟩
        case round =>
          clear HF2 HX2 HB2
          obtain ⟨k, hk, rfl, HF, HX, HB⟩ := hrel
          by_cases hlt : k < Q.length
          · obtain ⟨bA, oA, rfl, hbA, hA⟩ := HQ3.out.resolve_left (fun h => by rw [h] at hlt; simp at hlt)
            obtain ⟨vx, hx1, hx2⟩ := hA k hlt
            obtain ⟨X, HXk⟩ := hid_ex Q[k]
            rw [← HXk.out] at hx2
            obtain ⟨ax, cx, rfl, _⟩ := hx2.form
            have hX300 : X.length ≤ 300 := by rw [HXk.out]; exact HQS.out _ (List.getElem_mem hlt)
            have hcx := (HB.out.cell (p := ⟨bA, oA + k, none⟩) hbA).trans hx1
            have HC1 : Hid (w.cell? ⟨bA, oA + k, none⟩ = some (.slice ax X.length cx)) := hx1
            have HRX : Hid (Reads w (.slice ax X.length cx) X) := hx2
            clear hA hx1 hx2 HXk
            go_wp2_with fail
            obtain ⟨m, Hm⟩ := hid_ex (myF E (plc X (8 * E.length) hn))
            refine wp_region_noPanic ?_
            refine wp_region_held_drew (S := (fun w' => Below wr.heap.size wr w')) (by kernel_rfl) ?_ (fun hHeld => ?_)
            · exact (Below.refl _ _).drew
            refine wpAnyH_take (i := 0) (v := .pointer (some ⟨B, 0, none⟩)) rfl (by kernel_rfl) (by kernel_rfl) (by kernel_rfl) (fun _ _ _ h => h) (Or.inl ⟨by rfl, ?_⟩) (by assumption) ?_
            · (intro w1 hSw; (try dsimp only at hSw); go_simp)
            simp only [List.getElem_toArray, List.getElem_cons_zero, Act.put, List.setIfInBounds_toArray, List.set_cons_zero, List.set_cons_succ]
            refine wpAnyH_take (i := 1) (v := .slice (some ⟨bA, oA, none⟩) Q.length capq) rfl (by kernel_rfl) (by kernel_rfl) (by kernel_rfl) (fun _ _ _ h => h) (Or.inl ⟨by rfl, ?_⟩) (by assumption) ?_
            · (intro w1 hSw; (try dsimp only at hSw); go_simp)
            simp only [List.getElem_toArray, List.getElem_cons_succ, List.getElem_cons_zero, Act.put, List.setIfInBounds_toArray, List.set_cons_zero, List.set_cons_succ]
            refine wpAnyH_take (i := 2) (v := .int .i64 (k : Int)) rfl (by kernel_rfl) (by kernel_rfl) (by kernel_rfl) (fun _ _ _ h => h) (Or.inl ⟨by rfl, ?_⟩) (by assumption) ?_
            · (intro w1 hSw; (try dsimp only at hSw); go_simp)
            simp only [List.getElem_toArray, List.getElem_cons_succ, List.getElem_cons_zero, Act.put, List.setIfInBounds_toArray, List.set_cons_zero, List.set_cons_succ]
            refine wpAnyH_take (i := 3) (v := .pointer (some ⟨bA, oA + k, none⟩)) rfl (by kernel_rfl) (by kernel_rfl) (by kernel_rfl) (fun _ _ _ h => h) (Or.inl ⟨by rfl, ?_⟩) (by assumption) ?_
            · (intro w1 hSw; (try dsimp only at hSw); go_simp)
            simp only [List.getElem_toArray, List.getElem_cons_succ, List.getElem_cons_zero, Act.put, List.setIfInBounds_toArray, List.set_cons_zero, List.set_cons_succ]
            refine wpAnyH_take (i := 4) (v := .slice ax X.length cx) rfl (by kernel_rfl) (by kernel_rfl) (by kernel_rfl) (fun _ _ _ h => h) (Or.inl ⟨by rfl, ?_⟩) (by assumption) ?_
            · (intro w1 hSw; (try dsimp only at hSw); have hcc := ((HB.out.trans (hSw.mono HB.out.size)).cell (p := ⟨bA, oA + k, none⟩) hbA).trans HC1.out; go_simp)
            simp only [List.getElem_toArray, List.getElem_cons_succ, List.getElem_cons_zero, Act.put, List.setIfInBounds_toArray, List.set_cons_zero, List.set_cons_succ]
            refine wpAnyH_take (i := 6) (v := .pointer (some ⟨B2, 0, none⟩)) rfl (by kernel_rfl) (by kernel_rfl) (by kernel_rfl) (fun _ _ _ h => h) (Or.inl ⟨by rfl, ?_⟩) (by assumption) ?_
            · (intro w1 hSw; (try dsimp only at hSw); go_simp)
            simp only [List.getElem_toArray, List.getElem_cons_succ, List.getElem_cons_zero, Act.put, List.setIfInBounds_toArray, List.set_cons_zero, List.set_cons_succ]
            refine wpAnyH_take (i := 7) (v := .slice (some ⟨bA, oA, none⟩) Q.length capq) rfl (by kernel_rfl) (by kernel_rfl) (by kernel_rfl) (fun _ _ _ h => h) (Or.inl ⟨by rfl, ?_⟩) (by assumption) ?_
            · (intro w1 hSw; (try dsimp only at hSw); go_simp)
            simp only [List.getElem_toArray, List.getElem_cons_succ, List.getElem_cons_zero, Act.put, List.setIfInBounds_toArray, List.set_cons_zero, List.set_cons_succ]
            refine wpAnyH_take (i := 8) (v := .int .i64 (k : Int)) rfl (by kernel_rfl) (by kernel_rfl) (by kernel_rfl) (fun _ _ _ h => h) (Or.inl ⟨by rfl, ?_⟩) (by assumption) ?_
            · (intro w1 hSw; (try dsimp only at hSw); go_simp)
            simp only [List.getElem_toArray, List.getElem_cons_succ, List.getElem_cons_zero, Act.put, List.setIfInBounds_toArray, List.set_cons_zero, List.set_cons_succ]
            refine wpAnyH_take (i := 9) (v := .pointer (some ⟨bA, oA + k, none⟩)) rfl (by kernel_rfl) (by kernel_rfl) (by kernel_rfl) (fun _ _ _ h => h) (Or.inl ⟨by rfl, ?_⟩) (by assumption) ?_
            · (intro w1 hSw; (try dsimp only at hSw); go_simp)
            simp only [List.getElem_toArray, List.getElem_cons_succ, List.getElem_cons_zero, Act.put, List.setIfInBounds_toArray, List.set_cons_zero, List.set_cons_succ]
            refine wpAnyH_take (i := 10) (v := .slice ax X.length cx) rfl (by kernel_rfl) (by kernel_rfl) (by kernel_rfl) (fun _ _ _ h => h) (Or.inl ⟨by rfl, ?_⟩) (by assumption) ?_
            · (intro w1 hSw; (try dsimp only at hSw); have hcc := ((HB.out.trans (hSw.mono HB.out.size)).cell (p := ⟨bA, oA + k, none⟩) hbA).trans HC1.out; go_simp)
            simp only [List.getElem_toArray, List.getElem_cons_succ, List.getElem_cons_zero, Act.put, List.setIfInBounds_toArray, List.set_cons_zero, List.set_cons_succ]
            refine wpAnyH_ready (rs := [5]) (by kernel_rfl) (by simp) ?_
            refine AllReadyH.cons (o := _) rfl (fun K hK => ?_) AllReadyH.nil
            go_simp
            refine (may_any _ _ _ E X wr.drew _ (HF.out.below (Below.refl wr.heap.size wr).drew) (HRX.out.below HB.out.drew)).mono ?_
            rintro e w3 ⟨rfl, hb3⟩
            have HB3 : Hid (Below wr.heap.size wr w3) := (Below.refl wr.heap.size wr).drew.trans hb3
            rw [← Hm.out]
            clear hb3
            refine hK.out _ _ ?_ (fun hHeld => ?_)
            · exact HB3.out
            clear hK K
            refine wpAnyH_ready (rs := [11]) (by kernel_rfl) (by simp) ?_
            refine AllReadyH.cons (o := _) rfl (fun K hK => ?_) AllReadyH.nil
            go_simp
            refine (refMay_any _ _ _ E X (by omega) w3 _ (HX.out.below HB3.out) (HRX.out.below (HB.out.trans (HB3.out.mono HB.out.size)))).mono ?_
            rintro e w4 ⟨rfl, hb4⟩
            have HB4 : Hid (Below wr.heap.size wr w4) := HB3.out.trans (hb4.mono HB3.out.size)
            rw [← Hm.out]
            clear hb4
            refine hK.out _ _ ?_ (fun hHeld => ?_)
            · exact HB4.out
            clear hK K
            refine wpAnyH_take (i := 12) (v := .bool false) rfl (by kernel_rfl) (by kernel_rfl) (by kernel_rfl) (fun _ _ _ h => h) (Or.inl ⟨by rfl, ?_⟩) (by assumption) ?_
            · (intro w1 hSw; (try dsimp only at hSw); go_simp)
            simp only [List.getElem_toArray, List.getElem_cons_succ, List.getElem_cons_zero, Act.put, List.setIfInBounds_toArray, List.set_cons_zero, List.set_cons_succ]
            refine wpAnyH_done (by kernel_rfl) ?_ _
            refine NoPanic.normal ?_
            have HF4 : Hid (Fil w4 w.heap.size (.pointer (some ⟨B, 0, none⟩)) hn E) := HF.out.below HB4.out
            have HX4 : Hid (RF w4 w1.heap.size (.pointer (some ⟨B2, 0, none⟩)) hn (dgs E)) := HX.out.below HB4.out
            have HB5 : Hid (Below w.heap.size w w4) := HB.out.trans (HB4.out.mono HB.out.size)
            clear hHeld HB3 HB4 HF HX HB hcx HC1
            go_wp2_with fail
            go_roundw
            case rel => exact ⟨k + 1, by omega, by go_num, HF4, HX4, HB5⟩
            case measure => simp [intOf]; omega
          · go_wp2_with fail
            refine (alive_any _).mono ?_
            rintro e w4 ⟨rfl, hb4⟩
            have HB4 : Hid (Below w.heap.size w w4) := HB.out.trans (hb4.mono HB.out.size)
            clear hb4
            go_wp2_with fail
            go_ret
            exact ⟨rfl, HB4.out⟩
      · go_wp2_with fail
        refine (read_no _ l _ HR.out hok).mono ?_
        rintro e w1 ⟨rfl, hw1⟩
        subst w1
        go_wp2_with fail
        refine (refRead_no _ l _ HR.out hok).mono ?_
        rintro e w1 ⟨rfl, hw1⟩
        subst w1
        go_wp2_with fail
        refine (fit_any n _).mono ?_
        rintro e w3 ⟨rfl, hw3⟩
        subst w3
        go_wp2_with fail
        refine (refFit_any n _).mono ?_
        rintro e w3 ⟨rfl, hw3⟩
        subst w3
        obtain ⟨p1, Hp1⟩ := hid_ex (fitF n).1
        obtain ⟨p2, Hp2⟩ := hid_ex (fitF n).2.1
        obtain ⟨p3, Hp3⟩ := hid_ex (fitF n).2.2
        rw [← Hp1.out, ← Hp2.out, ← Hp3.out]
        clear Hp1 Hp2 Hp3
        go_wp2_with fail
        go_loopw [17] (fun i wr => i = .int .i64 0 ∧ wr = w) (fun _ _ => 0)
        case atStart => exact ⟨rfl, rfl⟩
        case round =>
          obtain ⟨rfl, hwr⟩ := hrel
          subst wr
          by_cases hq0 : (0 : Int) < (Q.length : Int)
          · go_wp2_with fail
            refine (alive_any _).mono ?_
            rintro e w4 ⟨rfl, hb4⟩
            go_wp2_with fail
            go_ret
            exact ⟨rfl, hb4⟩
          · go_wp2_with fail
            refine (alive_any _).mono ?_
            rintro e w4 ⟨rfl, hb4⟩
            go_wp2_with fail
            go_ret
            exact ⟨rfl, hb4⟩
  · go_wp2_with fail
    refine (alive_any _).mono ?_
    rintro e w4 ⟨rfl, hb4⟩
    go_wp2_with fail
    go_ret
    exact ⟨rfl, hb4⟩
end Go.Proofs.Ytgdjjpnejdedhaa
