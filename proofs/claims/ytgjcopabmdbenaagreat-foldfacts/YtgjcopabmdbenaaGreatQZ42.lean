/- FL19, joined. -/
import Derived.Test.YtgjcopabmdbenaaGreatQZ41
/- The contract of slices.symMergeCmpFunc of items: its third road (written by mkfl19.py). -/
namespace Go.Proofs.YtgjcopabmdbenaaGreat
open Go.RowKit Go.Shelf

set_option maxRecDepth 100000 in
set_option maxHeartbeats 16000000 in
theorem sym_gt (w : World) (base g n cap : Nat) (its0 its : List It) (W : World) (h : PmI w base g n cap its0 its W) (hn : n ≤ 100000) (a m b M : Nat) (hm1 : a + 1 < m) (hm2 : m + 1 < b) (hbn : b ≤ n) (hM1 : 2 * M ≤ a + b) (hM2 : a + b ≤ 2 * M + 1) (hMm : M < m)
    (ih : ∀ (a' m' b' : Nat) (its' : List It) (W' : World), b' - a' < b - a → a' < m' → m' < b' → b' ≤ n → PmI w base g n cap its0 its' W' → SyC w base g n cap its0 a' m' b' W') : SyC w base g n cap its0 a m b W := by
  have HI0 : Hid (PmI w base g n cap its0 its W) := h
  have HIH : Hid _ := ih
  have hcapm := pm_cap h
  have eg := eg_order
  clear h ih
  unfold SyC
  have hs1 : ((m : Int) - (a : Int) == 1) = false := by simp; omega
  have hs2 : ((b : Int) - (m : Int) == 1) = false := by simp; omega
  have hM3 : ((a : Int) + (b : Int)) / 2 = (M : Int) := by omega
  have HM3 : Hid _ := hM3
  have hgt : ((a : Int) + (b : Int)) / 2 < (m : Int) := by omega
  clear hM3
  go_enter Tryz.func55, Tryz.ntmps55
  go_wp2_with fail
  rw [HM3.out]
  clear hgt
  go_loopw [20, 21] (fun sv rv wr => ∃ (s r : Nat) (l : List It), sv = .int .i64 (s : Int) ∧ rv = .int .i64 (r : Int) ∧ M + m - b ≤ s ∧ s ≤ r ∧ r ≤ M ∧ Hid (PmI w base g n cap its0 l wr)) (fun sv rv _ => (intOf rv).toNat - (intOf sv).toNat)
  case atStart => exact ⟨M + m - b, M, its, by first | rfl | go_num, rfl, by omega, by omega, by omega, HI0⟩
  case round =>
    clear HI0
    obtain ⟨s, r, l, rfl, rfl, hs1', hij2, hrb, HI⟩ := hrel
    by_cases hlt : s < r
    · obtain ⟨Y, HYe⟩ := hid_ex ((s + r) / 2)
      have hX1 : s ≤ Y := by rw [HYe.out]; omega
      have hX2 : Y < r := by rw [HYe.out]; omega
      have hX3 : ((s : Int) + (r : Int)) / 2 = (Y : Int) := by rw [HYe.out]; omega
      have HX3 : Hid _ := hX3
      obtain ⟨X, HXe⟩ := hid_ex (M + m - 1 - Y)
      have hXq : X + Y + 1 ≤ M + m ∧ M + m ≤ X + Y + 1 := by rw [HXe.out]; omega
      have hXn : X < n := by omega
      have hYn : Y < n := by omega
      clear hX3
      obtain ⟨P, pa, pn, pc, hPg, hPc, hPn⟩ := HI.out.nine hXn
      obtain ⟨Q, qa, qn, qc, hQg, hQc, hQn⟩ := HI.out.nine hYn
      have HOD : Hid (∀ V, Below wr.heap.size wr V → Calls Tryz.prog 17 #[.agg #[.slice pa pn pc, .int .i64 P.f, .int .i64 (P.g : Int), .int .u64 P.a.c, .bool P.a.o, .int .i64 (hi P.a.s), .int .u64 (lo P.a.s), .int .i64 P.a.mn, .int .i64 P.a.mx], .agg #[.slice qa qn qc, .int .i64 Q.f, .int .i64 (Q.g : Int), .int .u64 Q.a.c, .bool Q.a.o, .int .i64 (hi Q.a.s), .int .u64 (lo Q.a.s), .int .i64 Q.a.mn, .int .i64 Q.a.mx]] V (OdPost V)) := HI.out.ord hPg hQg hPc hQc
      have HPn : Hid _ := hPn
      have HQn : Hid _ := hQn
      clear hPg hQg hPc hQc hPn hQn
      go_wp2_with fail
      rw [HX3.out]
      refine wp_region_noPanic ?_
      refine wp_region_held_drew (S := (fun w' => Below wr.heap.size wr w')) (by kernel_rfl) ?_ (fun hHeld => ?_)
      · exact (Below.refl _ _).drew
      refine wpAnyH_take (i := 0) (v := .func (.func 17) #[] #[]) rfl (by kernel_rfl) (by kernel_rfl) (by kernel_rfl) (fun _ _ _ h => h) (Or.inl ⟨by rfl, ?_⟩) (by assumption) ?_
      · (intro w1 hSw; (try dsimp only at hSw); go_simp)
      simp only [List.getElem_toArray, List.getElem_cons_zero, Act.put, List.setIfInBounds_toArray, List.set_cons_zero, List.set_cons_succ]
      refine wpAnyH_take (i := 1) (v := .slice (some ⟨g, 0, none⟩) n cap) rfl (by kernel_rfl) (by kernel_rfl) (by kernel_rfl) (fun _ _ _ h => h) (Or.inl ⟨by rfl, ?_⟩) (by assumption) ?_
      · (intro w1 hSw; (try dsimp only at hSw); go_simp)
      simp only [List.getElem_toArray, List.getElem_cons_succ, List.getElem_cons_zero, Act.put, List.setIfInBounds_toArray, List.set_cons_zero, List.set_cons_succ]
      refine wpAnyH_take (i := 2) (v := .int .i64 ((M : Int) + (m : Int) - 1)) rfl (by kernel_rfl) (by kernel_rfl) (by kernel_rfl) (fun _ _ _ h => h) (Or.inl ⟨by rfl, ?_⟩) (by assumption) ?_
      · (intro w1 hSw; (try dsimp only at hSw); go_simp)
      simp only [List.getElem_toArray, List.getElem_cons_succ, List.getElem_cons_zero, Act.put, List.setIfInBounds_toArray, List.set_cons_zero, List.set_cons_succ]
      refine wpAnyH_take (i := 3) (v := .int .i64 (Y : Int)) rfl (by kernel_rfl) (by kernel_rfl) (by kernel_rfl) (fun _ _ _ h => h) (Or.inl ⟨by rfl, ?_⟩) (by assumption) ?_
      · (intro w1 hSw; (try dsimp only at hSw); go_simp)
      simp only [List.getElem_toArray, List.getElem_cons_succ, List.getElem_cons_zero, Act.put, List.setIfInBounds_toArray, List.set_cons_zero, List.set_cons_succ]
      refine wpAnyH_take (i := 4) (v := .int .i64 (X : Int)) rfl (by kernel_rfl) (by kernel_rfl) (by kernel_rfl) (fun _ _ _ h => h) (Or.inl ⟨by rfl, ?_⟩) (by assumption) ?_
      · (intro w1 hSw; (try dsimp only at hSw); go_simp; (first | (rw [IntKind.wrap_i64]; omega) | omega))
      simp only [List.getElem_toArray, List.getElem_cons_succ, List.getElem_cons_zero, Act.put, List.setIfInBounds_toArray, List.set_cons_zero, List.set_cons_succ]
      refine wpAnyH_take (i := 5) (v := .pointer (some ⟨g, X * 9, none⟩)) rfl (by kernel_rfl) (by kernel_rfl) (by kernel_rfl) (fun _ _ _ h => h) (Or.inl ⟨by rfl, ?_⟩) (by assumption) ?_
      · (intro w1 hSw; (try dsimp only at hSw); go_simp)
      simp only [List.getElem_toArray, List.getElem_cons_succ, List.getElem_cons_zero, Act.put, List.setIfInBounds_toArray, List.set_cons_zero, List.set_cons_succ]
      refine wpAnyH_take (i := 6) (v := .agg #[.slice pa pn pc, .int .i64 P.f, .int .i64 (P.g : Int), .int .u64 P.a.c, .bool P.a.o, .int .i64 (hi P.a.s), .int .u64 (lo P.a.s), .int .i64 P.a.mn, .int .i64 P.a.mx]) rfl (by kernel_rfl) (by kernel_rfl) (by kernel_rfl) (fun _ _ _ h => h) (Or.inl ⟨by rfl, ?_⟩) (by assumption) ?_
      · (intro w1 hSw; (try dsimp only at hSw); obtain ⟨c0, c1, c2, c3, c4, c5, c6, c7, c8⟩ := HPn.out _ hSw; go_simp)
      simp only [List.getElem_toArray, List.getElem_cons_succ, List.getElem_cons_zero, Act.put, List.setIfInBounds_toArray, List.set_cons_zero, List.set_cons_succ]
      refine wpAnyH_take (i := 7) (v := .slice (some ⟨g, 0, none⟩) n cap) rfl (by kernel_rfl) (by kernel_rfl) (by kernel_rfl) (fun _ _ _ h => h) (Or.inl ⟨by rfl, ?_⟩) (by assumption) ?_
      · (intro w1 hSw; (try dsimp only at hSw); go_simp)
      simp only [List.getElem_toArray, List.getElem_cons_succ, List.getElem_cons_zero, Act.put, List.setIfInBounds_toArray, List.set_cons_zero, List.set_cons_succ]
      refine wpAnyH_take (i := 8) (v := .int .i64 (Y : Int)) rfl (by kernel_rfl) (by kernel_rfl) (by kernel_rfl) (fun _ _ _ h => h) (Or.inl ⟨by rfl, ?_⟩) (by assumption) ?_
      · (intro w1 hSw; (try dsimp only at hSw); go_simp)
      simp only [List.getElem_toArray, List.getElem_cons_succ, List.getElem_cons_zero, Act.put, List.setIfInBounds_toArray, List.set_cons_zero, List.set_cons_succ]
      refine wpAnyH_take (i := 9) (v := .pointer (some ⟨g, Y * 9, none⟩)) rfl (by kernel_rfl) (by kernel_rfl) (by kernel_rfl) (fun _ _ _ h => h) (Or.inl ⟨by rfl, ?_⟩) (by assumption) ?_
      · (intro w1 hSw; (try dsimp only at hSw); go_simp)
      simp only [List.getElem_toArray, List.getElem_cons_succ, List.getElem_cons_zero, Act.put, List.setIfInBounds_toArray, List.set_cons_zero, List.set_cons_succ]
      refine wpAnyH_take (i := 10) (v := .agg #[.slice qa qn qc, .int .i64 Q.f, .int .i64 (Q.g : Int), .int .u64 Q.a.c, .bool Q.a.o, .int .i64 (hi Q.a.s), .int .u64 (lo Q.a.s), .int .i64 Q.a.mn, .int .i64 Q.a.mx]) rfl (by kernel_rfl) (by kernel_rfl) (by kernel_rfl) (fun _ _ _ h => h) (Or.inl ⟨by rfl, ?_⟩) (by assumption) ?_
      · (intro w1 hSw; (try dsimp only at hSw); obtain ⟨c0, c1, c2, c3, c4, c5, c6, c7, c8⟩ := HQn.out _ hSw; go_simp)
      simp only [List.getElem_toArray, List.getElem_cons_succ, List.getElem_cons_zero, Act.put, List.setIfInBounds_toArray, List.set_cons_zero, List.set_cons_succ]
      refine wpAnyH_ready (rs := [11]) (by kernel_rfl) (by simp) ?_
      refine AllReadyH.cons (o := _) rfl (fun K hK => ?_) AllReadyH.nil
      go_simp
      refine (HOD.out _ (Below.refl _ _).drew).mono ?_
      rintro e w4 ⟨c, rfl, _, _, hb4⟩
      have HW4 : Hid (Below wr.heap.size wr w4) := (Below.refl wr.heap.size wr).drew.trans hb4
      clear hb4
      refine hK.out _ _ ?_ (fun hHeld => ?_)
      · exact HW4.out
      clear hK K
      refine wpAnyH_take (i := 12) (v := .bool (decide (c < 0))) rfl (by kernel_rfl) (by kernel_rfl) (by kernel_rfl) (fun _ _ _ h => h) (Or.inl ⟨by rfl, ?_⟩) (by assumption) ?_
      · (intro w1 hSw; (try dsimp only at hSw); go_simp)
      simp only [List.getElem_toArray, List.getElem_cons_succ, List.getElem_cons_zero, Act.put, List.setIfInBounds_toArray, List.set_cons_zero, List.set_cons_succ]
      refine wpAnyH_take (i := 13) (v := .bool (!(decide (c < 0)))) rfl (by kernel_rfl) (by kernel_rfl) (by kernel_rfl) (fun _ _ _ h => h) (Or.inl ⟨by rfl, ?_⟩) (by assumption) ?_
      · (intro w1 hSw; (try dsimp only at hSw); go_simp)
      simp only [List.getElem_toArray, List.getElem_cons_succ, List.getElem_cons_zero, Act.put, List.setIfInBounds_toArray, List.set_cons_zero, List.set_cons_succ]
      clear hHeld
      refine wpAnyH_done (by kernel_rfl) ?_ _
      refine NoPanic.normal ?_
      have HI4 : Hid (PmI w base g n cap its0 l w4) := HI.out.below HW4.out
      obtain ⟨t, Ht⟩ := hid_ex (decide (c < 0))
      rw [← Ht.out]
      clear Ht HOD HPn HQn
      cases t with
      | true =>
        go_wp2_with fail
        go_roundw
        case rel => exact ⟨s, Y, l, rfl, rfl, by omega, by omega, by omega, HI4⟩
        case measure => simp [intOf]; omega
      | false =>
        go_wp2_with fail
        go_roundw
        case rel => exact ⟨Y + 1, r, l, by go_num, rfl, by omega, by omega, by omega, HI4⟩
        case measure => simp [intOf]; omega
    · have hsr : r ≤ s := by omega
      by_cases q1 : s < M
      · by_cases q2 : a < s
        · by_cases q3 : M + m - s < b
          · have q9 : True := trivial
            have hsm : (s : Int) < (m : Int) := by omega
            have hmE : (m : Int) < ((M : Int) + (m : Int) - (s : Int)) := by omega
            have has_ : (a : Int) < (s : Int) := by omega
            have hsM : (s : Int) < (M : Int) := by omega
            have hME : (M : Int) < ((M : Int) + (m : Int) - (s : Int)) := by omega
            have hEb : ((M : Int) + (m : Int) - (s : Int)) < (b : Int) := by omega
            clear hij2
            have HRO : Hid (Calls Tryz.prog 83 #[.slice (some ⟨g, 0, none⟩) n cap, .int .i64 (s : Int), .int .i64 (m : Int), .int .i64 ((M : Int) + (m : Int) - (s : Int)), .func (.func 17) #[] #[]] wr (IsPost w base g n cap its0)) := by
              have := rotate_any w base g n cap its0 l wr HI.out hn s m (M + m - s) (by omega) (by omega) (by omega)
              rw [show ((M + m - s : Nat) : Int) = (M : Int) + (m : Int) - (s : Int) by omega] at this
              exact this
            go_wp2_with fail
            refine HRO.out.mono ?_
            rintro e wA ⟨⟨v, rfl⟩, lA, hlA⟩
            have HA : Hid (PmI w base g n cap its0 lA wA) := hlA
            clear hlA HRO
            have HS2 : Hid (Calls Tryz.prog 55 #[.slice (some ⟨g, 0, none⟩) n cap, .int .i64 (a : Int), .int .i64 (s : Int), .int .i64 (M : Int), .func (.func 17) #[] #[]] wA (IsPost w base g n cap its0)) := HIH.out a s M lA wA (by omega) (by omega) (by omega) (by omega) HA.out
            go_wp2_with fail
            refine HS2.out.mono ?_
            rintro e wB ⟨⟨v, rfl⟩, lB, hlB⟩
            have HB : Hid (PmI w base g n cap its0 lB wB) := hlB
            clear hlB HS2
            have HS3 : Hid (Calls Tryz.prog 55 #[.slice (some ⟨g, 0, none⟩) n cap, .int .i64 (M : Int), .int .i64 ((M : Int) + (m : Int) - (s : Int)), .int .i64 (b : Int), .func (.func 17) #[] #[]] wB (IsPost w base g n cap its0)) := by
              have : Calls Tryz.prog 55 #[.slice (some ⟨g, 0, none⟩) n cap, .int .i64 (M : Int), .int .i64 ((M + m - s : Nat) : Int), .int .i64 (b : Int), .func (.func 17) #[] #[]] wB (IsPost w base g n cap its0) := HIH.out M (M + m - s) b lB wB (by omega) (by omega) (by omega) (by omega) HB.out
              rw [show ((M + m - s : Nat) : Int) = (M : Int) + (m : Int) - (s : Int) by omega] at this
              exact this
            go_wp2_with fail
            refine HS3.out.mono ?_
            rintro e wC ⟨⟨v, rfl⟩, lC, hlC⟩
            have HC : Hid (PmI w base g n cap its0 lC wC) := hlC
            clear hlC HS3
            have HE : Hid (IsPost w base g n cap its0 (.returned (.tuple #[])) wC) := ⟨⟨_, rfl⟩, lC, HC.out⟩
            go_wp2_with fail
            exact bodyPost_end (results_none rfl _ _ _) rfl HE.out
          · have q9 : True := trivial
            have hsm : (s : Int) < (m : Int) := by omega
            have hmE : (m : Int) < ((M : Int) + (m : Int) - (s : Int)) := by omega
            have has_ : (a : Int) < (s : Int) := by omega
            have hsM : (s : Int) < (M : Int) := by omega
            have hME : (M : Int) < ((M : Int) + (m : Int) - (s : Int)) := by omega
            have hEb : ¬ (((M : Int) + (m : Int) - (s : Int)) < (b : Int)) := by omega
            clear hij2
            have HRO : Hid (Calls Tryz.prog 83 #[.slice (some ⟨g, 0, none⟩) n cap, .int .i64 (s : Int), .int .i64 (m : Int), .int .i64 ((M : Int) + (m : Int) - (s : Int)), .func (.func 17) #[] #[]] wr (IsPost w base g n cap its0)) := by
              have := rotate_any w base g n cap its0 l wr HI.out hn s m (M + m - s) (by omega) (by omega) (by omega)
              rw [show ((M + m - s : Nat) : Int) = (M : Int) + (m : Int) - (s : Int) by omega] at this
              exact this
            go_wp2_with fail
            refine HRO.out.mono ?_
            rintro e wA ⟨⟨v, rfl⟩, lA, hlA⟩
            have HA : Hid (PmI w base g n cap its0 lA wA) := hlA
            clear hlA HRO
            have HS2 : Hid (Calls Tryz.prog 55 #[.slice (some ⟨g, 0, none⟩) n cap, .int .i64 (a : Int), .int .i64 (s : Int), .int .i64 (M : Int), .func (.func 17) #[] #[]] wA (IsPost w base g n cap its0)) := HIH.out a s M lA wA (by omega) (by omega) (by omega) (by omega) HA.out
            go_wp2_with fail
            refine HS2.out.mono ?_
            rintro e wB ⟨⟨v, rfl⟩, lB, hlB⟩
            have HB : Hid (PmI w base g n cap its0 lB wB) := hlB
            clear hlB HS2
            have HE : Hid (IsPost w base g n cap its0 (.returned (.tuple #[])) wB) := ⟨⟨_, rfl⟩, lB, HB.out⟩
            go_wp2_with fail
            exact bodyPost_end (results_none rfl _ _ _) rfl HE.out
        · by_cases q3 : M + m - s < b
          · have q9 : True := trivial
            have hsm : (s : Int) < (m : Int) := by omega
            have hmE : (m : Int) < ((M : Int) + (m : Int) - (s : Int)) := by omega
            have has_ : ¬ ((a : Int) < (s : Int)) := by omega
            have hsM : (s : Int) < (M : Int) := by omega
            have hME : (M : Int) < ((M : Int) + (m : Int) - (s : Int)) := by omega
            have hEb : ((M : Int) + (m : Int) - (s : Int)) < (b : Int) := by omega
            clear hij2
            have HRO : Hid (Calls Tryz.prog 83 #[.slice (some ⟨g, 0, none⟩) n cap, .int .i64 (s : Int), .int .i64 (m : Int), .int .i64 ((M : Int) + (m : Int) - (s : Int)), .func (.func 17) #[] #[]] wr (IsPost w base g n cap its0)) := by
              have := rotate_any w base g n cap its0 l wr HI.out hn s m (M + m - s) (by omega) (by omega) (by omega)
              rw [show ((M + m - s : Nat) : Int) = (M : Int) + (m : Int) - (s : Int) by omega] at this
              exact this
            go_wp2_with fail
            refine HRO.out.mono ?_
            rintro e wA ⟨⟨v, rfl⟩, lA, hlA⟩
            have HA : Hid (PmI w base g n cap its0 lA wA) := hlA
            clear hlA HRO
            have HS3 : Hid (Calls Tryz.prog 55 #[.slice (some ⟨g, 0, none⟩) n cap, .int .i64 (M : Int), .int .i64 ((M : Int) + (m : Int) - (s : Int)), .int .i64 (b : Int), .func (.func 17) #[] #[]] wA (IsPost w base g n cap its0)) := by
              have : Calls Tryz.prog 55 #[.slice (some ⟨g, 0, none⟩) n cap, .int .i64 (M : Int), .int .i64 ((M + m - s : Nat) : Int), .int .i64 (b : Int), .func (.func 17) #[] #[]] wA (IsPost w base g n cap its0) := HIH.out M (M + m - s) b lA wA (by omega) (by omega) (by omega) (by omega) HA.out
              rw [show ((M + m - s : Nat) : Int) = (M : Int) + (m : Int) - (s : Int) by omega] at this
              exact this
            go_wp2_with fail
            refine HS3.out.mono ?_
            rintro e wC ⟨⟨v, rfl⟩, lC, hlC⟩
            have HC : Hid (PmI w base g n cap its0 lC wC) := hlC
            clear hlC HS3
            have HE : Hid (IsPost w base g n cap its0 (.returned (.tuple #[])) wC) := ⟨⟨_, rfl⟩, lC, HC.out⟩
            go_wp2_with fail
            exact bodyPost_end (results_none rfl _ _ _) rfl HE.out
          · have q9 : True := trivial
            have hsm : (s : Int) < (m : Int) := by omega
            have hmE : (m : Int) < ((M : Int) + (m : Int) - (s : Int)) := by omega
            have has_ : ¬ ((a : Int) < (s : Int)) := by omega
            have hsM : (s : Int) < (M : Int) := by omega
            have hME : (M : Int) < ((M : Int) + (m : Int) - (s : Int)) := by omega
            have hEb : ¬ (((M : Int) + (m : Int) - (s : Int)) < (b : Int)) := by omega
            clear hij2
            have HRO : Hid (Calls Tryz.prog 83 #[.slice (some ⟨g, 0, none⟩) n cap, .int .i64 (s : Int), .int .i64 (m : Int), .int .i64 ((M : Int) + (m : Int) - (s : Int)), .func (.func 17) #[] #[]] wr (IsPost w base g n cap its0)) := by
              have := rotate_any w base g n cap its0 l wr HI.out hn s m (M + m - s) (by omega) (by omega) (by omega)
              rw [show ((M + m - s : Nat) : Int) = (M : Int) + (m : Int) - (s : Int) by omega] at this
              exact this
            go_wp2_with fail
            refine HRO.out.mono ?_
            rintro e wA ⟨⟨v, rfl⟩, lA, hlA⟩
            have HA : Hid (PmI w base g n cap its0 lA wA) := hlA
            clear hlA HRO
            have HE : Hid (IsPost w base g n cap its0 (.returned (.tuple #[])) wA) := ⟨⟨_, rfl⟩, lA, HA.out⟩
            go_wp2_with fail
            exact bodyPost_end (results_none rfl _ _ _) rfl HE.out
      · by_cases q3 : M + m - s < b
        · have q9 : True := trivial
          have hsm : (s : Int) < (m : Int) := by omega
          have hmE : ¬ ((m : Int) < ((M : Int) + (m : Int) - (s : Int))) := by omega
          have has_ : (a : Int) < (s : Int) := by omega
          have hsM : ¬ ((s : Int) < (M : Int)) := by omega
          have hME : (M : Int) < ((M : Int) + (m : Int) - (s : Int)) := by omega
          have hEb : ((M : Int) + (m : Int) - (s : Int)) < (b : Int) := by omega
          clear hij2
          have HS3 : Hid (Calls Tryz.prog 55 #[.slice (some ⟨g, 0, none⟩) n cap, .int .i64 (M : Int), .int .i64 ((M : Int) + (m : Int) - (s : Int)), .int .i64 (b : Int), .func (.func 17) #[] #[]] wr (IsPost w base g n cap its0)) := by
            have : Calls Tryz.prog 55 #[.slice (some ⟨g, 0, none⟩) n cap, .int .i64 (M : Int), .int .i64 ((M + m - s : Nat) : Int), .int .i64 (b : Int), .func (.func 17) #[] #[]] wr (IsPost w base g n cap its0) := HIH.out M (M + m - s) b l wr (by omega) (by omega) (by omega) (by omega) HI.out
            rw [show ((M + m - s : Nat) : Int) = (M : Int) + (m : Int) - (s : Int) by omega] at this
            exact this
          go_wp2_with fail
          refine HS3.out.mono ?_
          rintro e wC ⟨⟨v, rfl⟩, lC, hlC⟩
          have HC : Hid (PmI w base g n cap its0 lC wC) := hlC
          clear hlC HS3
          have HE : Hid (IsPost w base g n cap its0 (.returned (.tuple #[])) wC) := ⟨⟨_, rfl⟩, lC, HC.out⟩
          go_wp2_with fail
          exact bodyPost_end (results_none rfl _ _ _) rfl HE.out
        · have q9 : True := trivial
          have hsm : (s : Int) < (m : Int) := by omega
          have hmE : ¬ ((m : Int) < ((M : Int) + (m : Int) - (s : Int))) := by omega
          have has_ : (a : Int) < (s : Int) := by omega
          have hsM : ¬ ((s : Int) < (M : Int)) := by omega
          have hME : (M : Int) < ((M : Int) + (m : Int) - (s : Int)) := by omega
          have hEb : ¬ (((M : Int) + (m : Int) - (s : Int)) < (b : Int)) := by omega
          clear hij2
          have HE : Hid (IsPost w base g n cap its0 (.returned (.tuple #[])) wr) := ⟨⟨_, rfl⟩, l, HI.out⟩
          go_wp2_with fail
          exact bodyPost_end (results_none rfl _ _ _) rfl HE.out
set_option maxRecDepth 100000 in
set_option maxHeartbeats 16000000 in
theorem sym_le (w : World) (base g n cap : Nat) (its0 its : List It) (W : World) (h : PmI w base g n cap its0 its W) (hn : n ≤ 100000) (a m b M : Nat) (hm1 : a + 1 < m) (hm2 : m + 1 < b) (hbn : b ≤ n) (hM1 : 2 * M ≤ a + b) (hM2 : a + b ≤ 2 * M + 1) (hMm : m ≤ M)
    (ih : ∀ (a' m' b' : Nat) (its' : List It) (W' : World), b' - a' < b - a → a' < m' → m' < b' → b' ≤ n → PmI w base g n cap its0 its' W' → SyC w base g n cap its0 a' m' b' W') : SyC w base g n cap its0 a m b W := by
  have HI0 : Hid (PmI w base g n cap its0 its W) := h
  have HIH : Hid _ := ih
  have hcapm := pm_cap h
  have eg := eg_order
  clear h ih
  unfold SyC
  have hs1 : ((m : Int) - (a : Int) == 1) = false := by simp; omega
  have hs2 : ((b : Int) - (m : Int) == 1) = false := by simp; omega
  have hM3 : ((a : Int) + (b : Int)) / 2 = (M : Int) := by omega
  have HM3 : Hid _ := hM3
  have hgt : ¬ (((a : Int) + (b : Int)) / 2 < (m : Int)) := by omega
  clear hM3
  go_enter Tryz.func55, Tryz.ntmps55
  go_wp2_with fail
  rw [HM3.out]
  clear hgt
  go_loopw [20, 21] (fun sv rv wr => ∃ (s r : Nat) (l : List It), sv = .int .i64 (s : Int) ∧ rv = .int .i64 (r : Int) ∧ a ≤ s ∧ s ≤ r ∧ r ≤ m ∧ Hid (PmI w base g n cap its0 l wr)) (fun sv rv _ => (intOf rv).toNat - (intOf sv).toNat)
  case atStart => exact ⟨a, m, its, by first | rfl | go_num, rfl, by omega, by omega, by omega, HI0⟩
  case round =>
    clear HI0
    obtain ⟨s, r, l, rfl, rfl, hs1', hij2, hrb, HI⟩ := hrel
    by_cases hlt : s < r
    · obtain ⟨Y, HYe⟩ := hid_ex ((s + r) / 2)
      have hX1 : s ≤ Y := by rw [HYe.out]; omega
      have hX2 : Y < r := by rw [HYe.out]; omega
      have hX3 : ((s : Int) + (r : Int)) / 2 = (Y : Int) := by rw [HYe.out]; omega
      have HX3 : Hid _ := hX3
      obtain ⟨X, HXe⟩ := hid_ex (M + m - 1 - Y)
      have hXq : X + Y + 1 ≤ M + m ∧ M + m ≤ X + Y + 1 := by rw [HXe.out]; omega
      have hXn : X < n := by omega
      have hYn : Y < n := by omega
      clear hX3
      obtain ⟨P, pa, pn, pc, hPg, hPc, hPn⟩ := HI.out.nine hXn
      obtain ⟨Q, qa, qn, qc, hQg, hQc, hQn⟩ := HI.out.nine hYn
      have HOD : Hid (∀ V, Below wr.heap.size wr V → Calls Tryz.prog 17 #[.agg #[.slice pa pn pc, .int .i64 P.f, .int .i64 (P.g : Int), .int .u64 P.a.c, .bool P.a.o, .int .i64 (hi P.a.s), .int .u64 (lo P.a.s), .int .i64 P.a.mn, .int .i64 P.a.mx], .agg #[.slice qa qn qc, .int .i64 Q.f, .int .i64 (Q.g : Int), .int .u64 Q.a.c, .bool Q.a.o, .int .i64 (hi Q.a.s), .int .u64 (lo Q.a.s), .int .i64 Q.a.mn, .int .i64 Q.a.mx]] V (OdPost V)) := HI.out.ord hPg hQg hPc hQc
      have HPn : Hid _ := hPn
      have HQn : Hid _ := hQn
      clear hPg hQg hPc hQc hPn hQn
      go_wp2_with fail
      rw [HX3.out]
      refine wp_region_noPanic ?_
      refine wp_region_held_drew (S := (fun w' => Below wr.heap.size wr w')) (by kernel_rfl) ?_ (fun hHeld => ?_)
      · exact (Below.refl _ _).drew
      refine wpAnyH_take (i := 0) (v := .func (.func 17) #[] #[]) rfl (by kernel_rfl) (by kernel_rfl) (by kernel_rfl) (fun _ _ _ h => h) (Or.inl ⟨by rfl, ?_⟩) (by assumption) ?_
      · (intro w1 hSw; (try dsimp only at hSw); go_simp)
      simp only [List.getElem_toArray, List.getElem_cons_zero, Act.put, List.setIfInBounds_toArray, List.set_cons_zero, List.set_cons_succ]
      refine wpAnyH_take (i := 1) (v := .slice (some ⟨g, 0, none⟩) n cap) rfl (by kernel_rfl) (by kernel_rfl) (by kernel_rfl) (fun _ _ _ h => h) (Or.inl ⟨by rfl, ?_⟩) (by assumption) ?_
      · (intro w1 hSw; (try dsimp only at hSw); go_simp)
      simp only [List.getElem_toArray, List.getElem_cons_succ, List.getElem_cons_zero, Act.put, List.setIfInBounds_toArray, List.set_cons_zero, List.set_cons_succ]
      refine wpAnyH_take (i := 2) (v := .int .i64 ((M : Int) + (m : Int) - 1)) rfl (by kernel_rfl) (by kernel_rfl) (by kernel_rfl) (fun _ _ _ h => h) (Or.inl ⟨by rfl, ?_⟩) (by assumption) ?_
      · (intro w1 hSw; (try dsimp only at hSw); go_simp)
      simp only [List.getElem_toArray, List.getElem_cons_succ, List.getElem_cons_zero, Act.put, List.setIfInBounds_toArray, List.set_cons_zero, List.set_cons_succ]
      refine wpAnyH_take (i := 3) (v := .int .i64 (Y : Int)) rfl (by kernel_rfl) (by kernel_rfl) (by kernel_rfl) (fun _ _ _ h => h) (Or.inl ⟨by rfl, ?_⟩) (by assumption) ?_
      · (intro w1 hSw; (try dsimp only at hSw); go_simp)
      simp only [List.getElem_toArray, List.getElem_cons_succ, List.getElem_cons_zero, Act.put, List.setIfInBounds_toArray, List.set_cons_zero, List.set_cons_succ]
      refine wpAnyH_take (i := 4) (v := .int .i64 (X : Int)) rfl (by kernel_rfl) (by kernel_rfl) (by kernel_rfl) (fun _ _ _ h => h) (Or.inl ⟨by rfl, ?_⟩) (by assumption) ?_
      · (intro w1 hSw; (try dsimp only at hSw); go_simp; (first | (rw [IntKind.wrap_i64]; omega) | omega))
      simp only [List.getElem_toArray, List.getElem_cons_succ, List.getElem_cons_zero, Act.put, List.setIfInBounds_toArray, List.set_cons_zero, List.set_cons_succ]
      refine wpAnyH_take (i := 5) (v := .pointer (some ⟨g, X * 9, none⟩)) rfl (by kernel_rfl) (by kernel_rfl) (by kernel_rfl) (fun _ _ _ h => h) (Or.inl ⟨by rfl, ?_⟩) (by assumption) ?_
      · (intro w1 hSw; (try dsimp only at hSw); go_simp)
      simp only [List.getElem_toArray, List.getElem_cons_succ, List.getElem_cons_zero, Act.put, List.setIfInBounds_toArray, List.set_cons_zero, List.set_cons_succ]
      refine wpAnyH_take (i := 6) (v := .agg #[.slice pa pn pc, .int .i64 P.f, .int .i64 (P.g : Int), .int .u64 P.a.c, .bool P.a.o, .int .i64 (hi P.a.s), .int .u64 (lo P.a.s), .int .i64 P.a.mn, .int .i64 P.a.mx]) rfl (by kernel_rfl) (by kernel_rfl) (by kernel_rfl) (fun _ _ _ h => h) (Or.inl ⟨by rfl, ?_⟩) (by assumption) ?_
      · (intro w1 hSw; (try dsimp only at hSw); obtain ⟨c0, c1, c2, c3, c4, c5, c6, c7, c8⟩ := HPn.out _ hSw; go_simp)
      simp only [List.getElem_toArray, List.getElem_cons_succ, List.getElem_cons_zero, Act.put, List.setIfInBounds_toArray, List.set_cons_zero, List.set_cons_succ]
      refine wpAnyH_take (i := 7) (v := .slice (some ⟨g, 0, none⟩) n cap) rfl (by kernel_rfl) (by kernel_rfl) (by kernel_rfl) (fun _ _ _ h => h) (Or.inl ⟨by rfl, ?_⟩) (by assumption) ?_
      · (intro w1 hSw; (try dsimp only at hSw); go_simp)
      simp only [List.getElem_toArray, List.getElem_cons_succ, List.getElem_cons_zero, Act.put, List.setIfInBounds_toArray, List.set_cons_zero, List.set_cons_succ]
      refine wpAnyH_take (i := 8) (v := .int .i64 (Y : Int)) rfl (by kernel_rfl) (by kernel_rfl) (by kernel_rfl) (fun _ _ _ h => h) (Or.inl ⟨by rfl, ?_⟩) (by assumption) ?_
      · (intro w1 hSw; (try dsimp only at hSw); go_simp)
      simp only [List.getElem_toArray, List.getElem_cons_succ, List.getElem_cons_zero, Act.put, List.setIfInBounds_toArray, List.set_cons_zero, List.set_cons_succ]
      refine wpAnyH_take (i := 9) (v := .pointer (some ⟨g, Y * 9, none⟩)) rfl (by kernel_rfl) (by kernel_rfl) (by kernel_rfl) (fun _ _ _ h => h) (Or.inl ⟨by rfl, ?_⟩) (by assumption) ?_
      · (intro w1 hSw; (try dsimp only at hSw); go_simp)
      simp only [List.getElem_toArray, List.getElem_cons_succ, List.getElem_cons_zero, Act.put, List.setIfInBounds_toArray, List.set_cons_zero, List.set_cons_succ]
      refine wpAnyH_take (i := 10) (v := .agg #[.slice qa qn qc, .int .i64 Q.f, .int .i64 (Q.g : Int), .int .u64 Q.a.c, .bool Q.a.o, .int .i64 (hi Q.a.s), .int .u64 (lo Q.a.s), .int .i64 Q.a.mn, .int .i64 Q.a.mx]) rfl (by kernel_rfl) (by kernel_rfl) (by kernel_rfl) (fun _ _ _ h => h) (Or.inl ⟨by rfl, ?_⟩) (by assumption) ?_
      · (intro w1 hSw; (try dsimp only at hSw); obtain ⟨c0, c1, c2, c3, c4, c5, c6, c7, c8⟩ := HQn.out _ hSw; go_simp)
      simp only [List.getElem_toArray, List.getElem_cons_succ, List.getElem_cons_zero, Act.put, List.setIfInBounds_toArray, List.set_cons_zero, List.set_cons_succ]
      refine wpAnyH_ready (rs := [11]) (by kernel_rfl) (by simp) ?_
      refine AllReadyH.cons (o := _) rfl (fun K hK => ?_) AllReadyH.nil
      go_simp
      refine (HOD.out _ (Below.refl _ _).drew).mono ?_
      rintro e w4 ⟨c, rfl, _, _, hb4⟩
      have HW4 : Hid (Below wr.heap.size wr w4) := (Below.refl wr.heap.size wr).drew.trans hb4
      clear hb4
      refine hK.out _ _ ?_ (fun hHeld => ?_)
      · exact HW4.out
      clear hK K
      refine wpAnyH_take (i := 12) (v := .bool (decide (c < 0))) rfl (by kernel_rfl) (by kernel_rfl) (by kernel_rfl) (fun _ _ _ h => h) (Or.inl ⟨by rfl, ?_⟩) (by assumption) ?_
      · (intro w1 hSw; (try dsimp only at hSw); go_simp)
      simp only [List.getElem_toArray, List.getElem_cons_succ, List.getElem_cons_zero, Act.put, List.setIfInBounds_toArray, List.set_cons_zero, List.set_cons_succ]
      refine wpAnyH_take (i := 13) (v := .bool (!(decide (c < 0)))) rfl (by kernel_rfl) (by kernel_rfl) (by kernel_rfl) (fun _ _ _ h => h) (Or.inl ⟨by rfl, ?_⟩) (by assumption) ?_
      · (intro w1 hSw; (try dsimp only at hSw); go_simp)
      simp only [List.getElem_toArray, List.getElem_cons_succ, List.getElem_cons_zero, Act.put, List.setIfInBounds_toArray, List.set_cons_zero, List.set_cons_succ]
      clear hHeld
      refine wpAnyH_done (by kernel_rfl) ?_ _
      refine NoPanic.normal ?_
      have HI4 : Hid (PmI w base g n cap its0 l w4) := HI.out.below HW4.out
      obtain ⟨t, Ht⟩ := hid_ex (decide (c < 0))
      rw [← Ht.out]
      clear Ht HOD HPn HQn
      cases t with
      | true =>
        go_wp2_with fail
        go_roundw
        case rel => exact ⟨s, Y, l, rfl, rfl, by omega, by omega, by omega, HI4⟩
        case measure => simp [intOf]; omega
      | false =>
        go_wp2_with fail
        go_roundw
        case rel => exact ⟨Y + 1, r, l, by go_num, rfl, by omega, by omega, by omega, HI4⟩
        case measure => simp [intOf]; omega
    · have hsr : r ≤ s := by omega
      by_cases q1 : s < m
      · by_cases q2 : a < s
        · by_cases q3 : M + m - s < b
          · have q9 : True := trivial
            have hsm : (s : Int) < (m : Int) := by omega
            have hmE : (m : Int) < ((M : Int) + (m : Int) - (s : Int)) := by omega
            have has_ : (a : Int) < (s : Int) := by omega
            have hsM : (s : Int) < (M : Int) := by omega
            have hME : (M : Int) < ((M : Int) + (m : Int) - (s : Int)) := by omega
            have hEb : ((M : Int) + (m : Int) - (s : Int)) < (b : Int) := by omega
            clear hij2
            have HRO : Hid (Calls Tryz.prog 83 #[.slice (some ⟨g, 0, none⟩) n cap, .int .i64 (s : Int), .int .i64 (m : Int), .int .i64 ((M : Int) + (m : Int) - (s : Int)), .func (.func 17) #[] #[]] wr (IsPost w base g n cap its0)) := by
              have := rotate_any w base g n cap its0 l wr HI.out hn s m (M + m - s) (by omega) (by omega) (by omega)
              rw [show ((M + m - s : Nat) : Int) = (M : Int) + (m : Int) - (s : Int) by omega] at this
              exact this
            go_wp2_with fail
            refine HRO.out.mono ?_
            rintro e wA ⟨⟨v, rfl⟩, lA, hlA⟩
            have HA : Hid (PmI w base g n cap its0 lA wA) := hlA
            clear hlA HRO
            have HS2 : Hid (Calls Tryz.prog 55 #[.slice (some ⟨g, 0, none⟩) n cap, .int .i64 (a : Int), .int .i64 (s : Int), .int .i64 (M : Int), .func (.func 17) #[] #[]] wA (IsPost w base g n cap its0)) := HIH.out a s M lA wA (by omega) (by omega) (by omega) (by omega) HA.out
            go_wp2_with fail
            refine HS2.out.mono ?_
            rintro e wB ⟨⟨v, rfl⟩, lB, hlB⟩
            have HB : Hid (PmI w base g n cap its0 lB wB) := hlB
            clear hlB HS2
            have HS3 : Hid (Calls Tryz.prog 55 #[.slice (some ⟨g, 0, none⟩) n cap, .int .i64 (M : Int), .int .i64 ((M : Int) + (m : Int) - (s : Int)), .int .i64 (b : Int), .func (.func 17) #[] #[]] wB (IsPost w base g n cap its0)) := by
              have : Calls Tryz.prog 55 #[.slice (some ⟨g, 0, none⟩) n cap, .int .i64 (M : Int), .int .i64 ((M + m - s : Nat) : Int), .int .i64 (b : Int), .func (.func 17) #[] #[]] wB (IsPost w base g n cap its0) := HIH.out M (M + m - s) b lB wB (by omega) (by omega) (by omega) (by omega) HB.out
              rw [show ((M + m - s : Nat) : Int) = (M : Int) + (m : Int) - (s : Int) by omega] at this
              exact this
            go_wp2_with fail
            refine HS3.out.mono ?_
            rintro e wC ⟨⟨v, rfl⟩, lC, hlC⟩
            have HC : Hid (PmI w base g n cap its0 lC wC) := hlC
            clear hlC HS3
            have HE : Hid (IsPost w base g n cap its0 (.returned (.tuple #[])) wC) := ⟨⟨_, rfl⟩, lC, HC.out⟩
            go_wp2_with fail
            exact bodyPost_end (results_none rfl _ _ _) rfl HE.out
          · exfalso; omega
        · by_cases q3 : M + m - s < b
          · have q9 : True := trivial
            have hsm : (s : Int) < (m : Int) := by omega
            have hmE : (m : Int) < ((M : Int) + (m : Int) - (s : Int)) := by omega
            have has_ : ¬ ((a : Int) < (s : Int)) := by omega
            have hsM : (s : Int) < (M : Int) := by omega
            have hME : (M : Int) < ((M : Int) + (m : Int) - (s : Int)) := by omega
            have hEb : ((M : Int) + (m : Int) - (s : Int)) < (b : Int) := by omega
            clear hij2
            have HRO : Hid (Calls Tryz.prog 83 #[.slice (some ⟨g, 0, none⟩) n cap, .int .i64 (s : Int), .int .i64 (m : Int), .int .i64 ((M : Int) + (m : Int) - (s : Int)), .func (.func 17) #[] #[]] wr (IsPost w base g n cap its0)) := by
              have := rotate_any w base g n cap its0 l wr HI.out hn s m (M + m - s) (by omega) (by omega) (by omega)
              rw [show ((M + m - s : Nat) : Int) = (M : Int) + (m : Int) - (s : Int) by omega] at this
              exact this
            go_wp2_with fail
            refine HRO.out.mono ?_
            rintro e wA ⟨⟨v, rfl⟩, lA, hlA⟩
            have HA : Hid (PmI w base g n cap its0 lA wA) := hlA
            clear hlA HRO
            have HS3 : Hid (Calls Tryz.prog 55 #[.slice (some ⟨g, 0, none⟩) n cap, .int .i64 (M : Int), .int .i64 ((M : Int) + (m : Int) - (s : Int)), .int .i64 (b : Int), .func (.func 17) #[] #[]] wA (IsPost w base g n cap its0)) := by
              have : Calls Tryz.prog 55 #[.slice (some ⟨g, 0, none⟩) n cap, .int .i64 (M : Int), .int .i64 ((M + m - s : Nat) : Int), .int .i64 (b : Int), .func (.func 17) #[] #[]] wA (IsPost w base g n cap its0) := HIH.out M (M + m - s) b lA wA (by omega) (by omega) (by omega) (by omega) HA.out
              rw [show ((M + m - s : Nat) : Int) = (M : Int) + (m : Int) - (s : Int) by omega] at this
              exact this
            go_wp2_with fail
            refine HS3.out.mono ?_
            rintro e wC ⟨⟨v, rfl⟩, lC, hlC⟩
            have HC : Hid (PmI w base g n cap its0 lC wC) := hlC
            clear hlC HS3
            have HE : Hid (IsPost w base g n cap its0 (.returned (.tuple #[])) wC) := ⟨⟨_, rfl⟩, lC, HC.out⟩
            go_wp2_with fail
            exact bodyPost_end (results_none rfl _ _ _) rfl HE.out
          · have q9 : True := trivial
            have hsm : (s : Int) < (m : Int) := by omega
            have hmE : (m : Int) < ((M : Int) + (m : Int) - (s : Int)) := by omega
            have has_ : ¬ ((a : Int) < (s : Int)) := by omega
            have hsM : (s : Int) < (M : Int) := by omega
            have hME : (M : Int) < ((M : Int) + (m : Int) - (s : Int)) := by omega
            have hEb : ¬ (((M : Int) + (m : Int) - (s : Int)) < (b : Int)) := by omega
            clear hij2
            have HRO : Hid (Calls Tryz.prog 83 #[.slice (some ⟨g, 0, none⟩) n cap, .int .i64 (s : Int), .int .i64 (m : Int), .int .i64 ((M : Int) + (m : Int) - (s : Int)), .func (.func 17) #[] #[]] wr (IsPost w base g n cap its0)) := by
              have := rotate_any w base g n cap its0 l wr HI.out hn s m (M + m - s) (by omega) (by omega) (by omega)
              rw [show ((M + m - s : Nat) : Int) = (M : Int) + (m : Int) - (s : Int) by omega] at this
              exact this
            go_wp2_with fail
            refine HRO.out.mono ?_
            rintro e wA ⟨⟨v, rfl⟩, lA, hlA⟩
            have HA : Hid (PmI w base g n cap its0 lA wA) := hlA
            clear hlA HRO
            have HE : Hid (IsPost w base g n cap its0 (.returned (.tuple #[])) wA) := ⟨⟨_, rfl⟩, lA, HA.out⟩
            go_wp2_with fail
            exact bodyPost_end (results_none rfl _ _ _) rfl HE.out
      · by_cases q2 : s < M
        · have q9 : True := trivial
          have hsm : ¬ ((s : Int) < (m : Int)) := by omega
          have has_ : (a : Int) < (s : Int) := by omega
          have hsM : (s : Int) < (M : Int) := by omega
          have hME : ¬ ((M : Int) < ((M : Int) + (m : Int) - (s : Int))) := by omega
          have hE0 : (0 : Int) ≤ ((M : Int) + (m : Int) - (s : Int)) := by omega
          have hE1 : ((M : Int) + (m : Int) - (s : Int)) ≤ 300000 := by omega
          clear hij2
          have HS2 : Hid (Calls Tryz.prog 55 #[.slice (some ⟨g, 0, none⟩) n cap, .int .i64 (a : Int), .int .i64 (s : Int), .int .i64 (M : Int), .func (.func 17) #[] #[]] wr (IsPost w base g n cap its0)) := HIH.out a s M l wr (by omega) (by omega) (by omega) (by omega) HI.out
          go_wp2_with fail
          refine HS2.out.mono ?_
          rintro e wB ⟨⟨v, rfl⟩, lB, hlB⟩
          have HB : Hid (PmI w base g n cap its0 lB wB) := hlB
          clear hlB HS2
          have HE : Hid (IsPost w base g n cap its0 (.returned (.tuple #[])) wB) := ⟨⟨_, rfl⟩, lB, HB.out⟩
          go_wp2_with fail
          exact bodyPost_end (results_none rfl _ _ _) rfl HE.out
        · have q9 : True := trivial
          have hsm : ¬ ((s : Int) < (m : Int)) := by omega
          have has_ : (a : Int) < (s : Int) := by omega
          have hsM : ¬ ((s : Int) < (M : Int)) := by omega
          have hME : ¬ ((M : Int) < ((M : Int) + (m : Int) - (s : Int))) := by omega
          have hE0 : (0 : Int) ≤ ((M : Int) + (m : Int) - (s : Int)) := by omega
          have hE1 : ((M : Int) + (m : Int) - (s : Int)) ≤ 300000 := by omega
          clear hij2
          have HE : Hid (IsPost w base g n cap its0 (.returned (.tuple #[])) wr) := ⟨⟨_, rfl⟩, l, HI.out⟩
          go_wp2_with fail
          exact bodyPost_end (results_none rfl _ _ _) rfl HE.out
theorem sym_any (w : World) (base g n cap : Nat) (its0 : List It) (hn : n ≤ 100000) : ∀ (d a m b : Nat) (its : List It) (W : World), b - a ≤ d → a < m → m < b → b ≤ n → PmI w base g n cap its0 its W → SyC w base g n cap its0 a m b W := by
  intro d
  induction d with
  | zero => intro a m b its W h1 h2 h3 _ _; omega
  | succ d ihd =>
    intro a m b its W h1 h2 h3 h4 hp
    rcases Nat.lt_or_ge (a + 1) m with c1 | c1
    · rcases Nat.lt_or_ge (m + 1) b with c2 | c2
      · have ih : ∀ (a' m' b' : Nat) (its' : List It) (W' : World), b' - a' < b - a → a' < m' → m' < b' → b' ≤ n → PmI w base g n cap its0 its' W' → SyC w base g n cap its0 a' m' b' W' := fun a' m' b' its' W' q1 q2 q3 q4 q5 => ihd a' m' b' its' W' (by omega) q2 q3 q4 q5
        rcases Nat.lt_or_ge ((a + b) / 2) m with c3 | c3
        · exact sym_gt w base g n cap its0 its W hp hn a m b ((a + b) / 2) c1 c2 h4 (by omega) (by omega) c3 ih
        · exact sym_le w base g n cap its0 its W hp hn a m b ((a + b) / 2) c1 c2 h4 (by omega) (by omega) c3 ih
      · exact sym_two w base g n cap its0 its W hp hn a m b c1 c2 h3 h4
    · exact sym_one w base g n cap its0 its W hp hn a m b h2 c1 h3 h4
end Go.Proofs.YtgjcopabmdbenaaGreat
