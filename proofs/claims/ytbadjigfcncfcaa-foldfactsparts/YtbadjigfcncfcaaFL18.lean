/- The contract of slices.symMergeCmpFunc of items (written by mkfl17.py). -/
import Derived.Test.YtbadjigfcncfcaaFL17
namespace Go.Proofs.Ytbadjigfcncfcaa
open Go.RowKit Go.Shelf

/-- A call of symMerge. -/
def SyC (w : World) (base g n cap : Nat) (its0 : List It) (a m b : Nat) (W : World) : Prop :=
  Calls Try.prog 76 #[.slice (some ⟨g, 0, none⟩) n cap, .int .i64 (a : Int), .int .i64 (m : Int), .int .i64 (b : Int), .func (.func 36) #[] #[]] W (IsPost w base g n cap its0)
set_option maxRecDepth 100000 in
set_option maxHeartbeats 8000000 in
theorem sym_one (w : World) (base g n cap : Nat) (its0 its : List It) (W : World) (h : PmI w base g n cap its0 its W) (hn : n ≤ 100000) (a m b : Nat) (hm1 : a < m) (hm2 : m ≤ a + 1) (hab : m < b) (hbn : b ≤ n) : SyC w base g n cap its0 a m b W := by
  have HI0 : Hid (PmI w base g n cap its0 its W) := h
  have hcapm := pm_cap h
  have eg := eg_order
  clear h
  unfold SyC
  have hs1 : ((m : Int) - (a : Int) == 1) = true := by simp; omega
  go_enter Try.func76, Try.ntmps76
  go_wp2_with fail
  go_loopw [10, 11] (fun iv jv wr => ∃ (i j : Nat) (l : List It), iv = .int .i64 (i : Int) ∧ jv = .int .i64 (j : Int) ∧ m ≤ i ∧ i ≤ j ∧ j ≤ b ∧ Hid (PmI w base g n cap its0 l wr)) (fun iv jv _ => (intOf jv).toNat - (intOf iv).toNat)
  case atStart => exact ⟨m, b, its, rfl, rfl, by omega, by omega, by omega, HI0⟩
  case round =>
    clear HI0
    obtain ⟨i, j, l, rfl, rfl, hi1, hij, hjb, HI⟩ := hrel
    by_cases hlt : i < j
    · obtain ⟨X, HXe⟩ := hid_ex ((i + j) / 2)
      have hX1 : i ≤ X := by rw [HXe.out]; omega
      have hX2 : X < j := by rw [HXe.out]; omega
      have hX3 : ((i : Int) + (j : Int)) / 2 = (X : Int) := by rw [HXe.out]; omega
      have HX3 : Hid _ := hX3
      have hXn : X < n := by omega
      have hYn : a < n := by omega
      clear hX3
      obtain ⟨P, pa, pn, pc, hPg, hPc, hPn⟩ := HI.out.nine hXn
      obtain ⟨Q, qa, qn, qc, hQg, hQc, hQn⟩ := HI.out.nine hYn
      have HOD : Hid (∀ V, Below wr.heap.size wr V → Calls Try.prog 36 #[.agg #[.slice pa pn pc, .int .i64 P.f, .int .i64 (P.g : Int), .int .u64 P.a.c, .bool P.a.o, .int .i64 (hi P.a.s), .int .u64 (lo P.a.s), .int .i64 P.a.mn, .int .i64 P.a.mx], .agg #[.slice qa qn qc, .int .i64 Q.f, .int .i64 (Q.g : Int), .int .u64 Q.a.c, .bool Q.a.o, .int .i64 (hi Q.a.s), .int .u64 (lo Q.a.s), .int .i64 Q.a.mn, .int .i64 Q.a.mx]] V (OdPost V)) := HI.out.ord hPg hQg hPc hQc
      have HPn : Hid _ := hPn
      have HQn : Hid _ := hQn
      clear hPg hQg hPc hQc hPn hQn
      go_wp2_with fail
      rw [HX3.out]
      refine wp_region_noPanic ?_
      refine wp_region_held_drew (S := (fun w' => Below wr.heap.size wr w')) (by kernel_rfl) ?_ (fun hHeld => ?_)
      · exact (Below.refl _ _).drew
      refine wpAnyH_take (i := 0) (v := .func (.func 36) #[] #[]) rfl (by kernel_rfl) (by kernel_rfl) (by kernel_rfl) (fun _ _ _ h => h) (Or.inl ⟨by rfl, ?_⟩) (by assumption) ?_
      · (intro w1 hSw; (try dsimp only at hSw); go_simp)
      simp only [List.getElem_toArray, List.getElem_cons_zero, Act.put, List.setIfInBounds_toArray, List.set_cons_zero, List.set_cons_succ]
      refine wpAnyH_take (i := 1) (v := .slice (some ⟨g, 0, none⟩) n cap) rfl (by kernel_rfl) (by kernel_rfl) (by kernel_rfl) (fun _ _ _ h => h) (Or.inl ⟨by rfl, ?_⟩) (by assumption) ?_
      · (intro w1 hSw; (try dsimp only at hSw); go_simp)
      simp only [List.getElem_toArray, List.getElem_cons_succ, List.getElem_cons_zero, Act.put, List.setIfInBounds_toArray, List.set_cons_zero, List.set_cons_succ]
      refine wpAnyH_take (i := 2) (v := .int .i64 (X : Int)) rfl (by kernel_rfl) (by kernel_rfl) (by kernel_rfl) (fun _ _ _ h => h) (Or.inl ⟨by rfl, ?_⟩) (by assumption) ?_
      · (intro w1 hSw; (try dsimp only at hSw); go_simp)
      simp only [List.getElem_toArray, List.getElem_cons_succ, List.getElem_cons_zero, Act.put, List.setIfInBounds_toArray, List.set_cons_zero, List.set_cons_succ]
      refine wpAnyH_take (i := 3) (v := .pointer (some ⟨g, X * 9, none⟩)) rfl (by kernel_rfl) (by kernel_rfl) (by kernel_rfl) (fun _ _ _ h => h) (Or.inl ⟨by rfl, ?_⟩) (by assumption) ?_
      · (intro w1 hSw; (try dsimp only at hSw); go_simp)
      simp only [List.getElem_toArray, List.getElem_cons_succ, List.getElem_cons_zero, Act.put, List.setIfInBounds_toArray, List.set_cons_zero, List.set_cons_succ]
      refine wpAnyH_take (i := 4) (v := .agg #[.slice pa pn pc, .int .i64 P.f, .int .i64 (P.g : Int), .int .u64 P.a.c, .bool P.a.o, .int .i64 (hi P.a.s), .int .u64 (lo P.a.s), .int .i64 P.a.mn, .int .i64 P.a.mx]) rfl (by kernel_rfl) (by kernel_rfl) (by kernel_rfl) (fun _ _ _ h => h) (Or.inl ⟨by rfl, ?_⟩) (by assumption) ?_
      · (intro w1 hSw; (try dsimp only at hSw); obtain ⟨c0, c1, c2, c3, c4, c5, c6, c7, c8⟩ := HPn.out _ hSw; go_simp)
      simp only [List.getElem_toArray, List.getElem_cons_succ, List.getElem_cons_zero, Act.put, List.setIfInBounds_toArray, List.set_cons_zero, List.set_cons_succ]
      refine wpAnyH_take (i := 5) (v := .slice (some ⟨g, 0, none⟩) n cap) rfl (by kernel_rfl) (by kernel_rfl) (by kernel_rfl) (fun _ _ _ h => h) (Or.inl ⟨by rfl, ?_⟩) (by assumption) ?_
      · (intro w1 hSw; (try dsimp only at hSw); go_simp)
      simp only [List.getElem_toArray, List.getElem_cons_succ, List.getElem_cons_zero, Act.put, List.setIfInBounds_toArray, List.set_cons_zero, List.set_cons_succ]
      refine wpAnyH_take (i := 6) (v := .int .i64 (a : Int)) rfl (by kernel_rfl) (by kernel_rfl) (by kernel_rfl) (fun _ _ _ h => h) (Or.inl ⟨by rfl, ?_⟩) (by assumption) ?_
      · (intro w1 hSw; (try dsimp only at hSw); go_simp)
      simp only [List.getElem_toArray, List.getElem_cons_succ, List.getElem_cons_zero, Act.put, List.setIfInBounds_toArray, List.set_cons_zero, List.set_cons_succ]
      refine wpAnyH_take (i := 7) (v := .pointer (some ⟨g, a * 9, none⟩)) rfl (by kernel_rfl) (by kernel_rfl) (by kernel_rfl) (fun _ _ _ h => h) (Or.inl ⟨by rfl, ?_⟩) (by assumption) ?_
      · (intro w1 hSw; (try dsimp only at hSw); go_simp)
      simp only [List.getElem_toArray, List.getElem_cons_succ, List.getElem_cons_zero, Act.put, List.setIfInBounds_toArray, List.set_cons_zero, List.set_cons_succ]
      refine wpAnyH_take (i := 8) (v := .agg #[.slice qa qn qc, .int .i64 Q.f, .int .i64 (Q.g : Int), .int .u64 Q.a.c, .bool Q.a.o, .int .i64 (hi Q.a.s), .int .u64 (lo Q.a.s), .int .i64 Q.a.mn, .int .i64 Q.a.mx]) rfl (by kernel_rfl) (by kernel_rfl) (by kernel_rfl) (fun _ _ _ h => h) (Or.inl ⟨by rfl, ?_⟩) (by assumption) ?_
      · (intro w1 hSw; (try dsimp only at hSw); obtain ⟨c0, c1, c2, c3, c4, c5, c6, c7, c8⟩ := HQn.out _ hSw; go_simp)
      simp only [List.getElem_toArray, List.getElem_cons_succ, List.getElem_cons_zero, Act.put, List.setIfInBounds_toArray, List.set_cons_zero, List.set_cons_succ]
      refine wpAnyH_ready (rs := [9]) (by kernel_rfl) (by simp) ?_
      refine AllReadyH.cons (o := _) rfl (fun K hK => ?_) AllReadyH.nil
      go_simp
      refine (HOD.out _ (Below.refl _ _).drew).mono ?_
      rintro e w4 ⟨c, rfl, _, _, hb4⟩
      have HW4 : Hid (Below wr.heap.size wr w4) := (Below.refl wr.heap.size wr).drew.trans hb4
      clear hb4
      refine hK.out _ _ ?_ (fun hHeld => ?_)
      · exact HW4.out
      clear hK K
      refine wpAnyH_take (i := 10) (v := .bool (decide (c < 0))) rfl (by kernel_rfl) (by kernel_rfl) (by kernel_rfl) (fun _ _ _ h => h) (Or.inl ⟨by rfl, ?_⟩) (by assumption) ?_
      · (intro w1 hSw; (try dsimp only at hSw); go_simp)
      simp only [List.getElem_toArray, List.getElem_cons_succ, List.getElem_cons_zero, Act.put, List.setIfInBounds_toArray, List.set_cons_zero, List.set_cons_succ]
      clear hHeld
      refine wpAnyH_done (by kernel_rfl) ?_ _
      refine NoPanic.normal ?_
      have HI4 : Hid (PmI w base g n cap its0 l w4) := HI.out.below HW4.out
      obtain ⟨t, Ht⟩ := hid_ex (decide (c < 0))
      rw [← Ht.out]
      clear Ht HOD HPn HQn
      cases t with
      | true =>
        go_wp2_with fail
        go_roundw
        case rel => exact ⟨X + 1, j, l, by go_num, rfl, by omega, by omega, by omega, HI4⟩
        case measure => simp [intOf]; omega
      | false =>
        go_wp2_with fail
        go_roundw
        case rel => exact ⟨i, X, l, rfl, rfl, by omega, by omega, by omega, HI4⟩
        case measure => simp [intOf]; omega
    · go_wp2_with fail
      go_loopw [13] (fun kv wr => ∃ (k : Nat) (l : List It), kv = .int .i64 (k : Int) ∧ a ≤ k ∧ k < i ∧ Hid (PmI w base g n cap its0 l wr)) (fun kv _ => i - (intOf kv).toNat)
      case atStart => exact ⟨a, l, rfl, by omega, by omega, HI⟩
      case round =>
        clear HI
        obtain ⟨k, l, rfl, hk1, hk2, HI⟩ := hrel
        by_cases hki : k + 1 < i
        · obtain ⟨Y, HYe⟩ := hid_ex (k + 1)
          have hXn : k < n := by omega
          have hYn : Y < n := by rw [HYe.out]; omega
          have hg1 : (k : Int) < (i : Int) - 1 := by omega
          obtain ⟨P, pa, pn, pc, hPg, hPc, hPn⟩ := HI.out.nine hXn
          obtain ⟨Q, qa, qn, qc, hQg, hQc, hQn⟩ := HI.out.nine hYn
          have HPg : Hid _ := hPg
          have HQg : Hid _ := hQg
          have HPc : Hid _ := hPc
          have HQc : Hid _ := hQc
          obtain ⟨c0, c1, c2, c3, c4, c5, c6, c7, c8⟩ := hPn _ (Below.refl _ _)
          obtain ⟨d0, d1, d2, d3, d4, d5, d6, d7, d8⟩ := hQn _ (Below.refl _ _)
          obtain ⟨cur, hcur, hcs⟩ := pmI_row HI.out
          have HCU : Hid _ := hcur
          clear hcur hPg hQg hPc hQc hPn hQn
          go_wp2_with fail
          refine wp_region_noPanic ?_
          refine wp_region_S 15 (fun _ => True) (fun w' => w'.cell? ⟨g, k * 9, none⟩ = some (.slice pa pn pc) ∧ w'.cell? ⟨g, k * 9 + 1, none⟩ = some (.int .i64 P.f) ∧ w'.cell? ⟨g, k * 9 + 2, none⟩ = some (.int .i64 (P.g : Int)) ∧ w'.cell? ⟨g, k * 9 + 3, none⟩ = some (.int .u64 P.a.c) ∧ w'.cell? ⟨g, k * 9 + 4, none⟩ = some (.bool P.a.o) ∧ w'.cell? ⟨g, k * 9 + 5, none⟩ = some (.int .i64 (hi P.a.s)) ∧ w'.cell? ⟨g, k * 9 + 6, none⟩ = some (.int .u64 (lo P.a.s)) ∧ w'.cell? ⟨g, k * 9 + 7, none⟩ = some (.int .i64 P.a.mn) ∧ w'.cell? ⟨g, k * 9 + 8, none⟩ = some (.int .i64 P.a.mx) ∧ w'.cell? ⟨g, Y * 9, none⟩ = some (.slice qa qn qc) ∧ w'.cell? ⟨g, Y * 9 + 1, none⟩ = some (.int .i64 Q.f) ∧ w'.cell? ⟨g, Y * 9 + 2, none⟩ = some (.int .i64 (Q.g : Int)) ∧ w'.cell? ⟨g, Y * 9 + 3, none⟩ = some (.int .u64 Q.a.c) ∧ w'.cell? ⟨g, Y * 9 + 4, none⟩ = some (.bool Q.a.o) ∧ w'.cell? ⟨g, Y * 9 + 5, none⟩ = some (.int .i64 (hi Q.a.s)) ∧ w'.cell? ⟨g, Y * 9 + 6, none⟩ = some (.int .u64 (lo Q.a.s)) ∧ w'.cell? ⟨g, Y * 9 + 7, none⟩ = some (.int .i64 Q.a.mn) ∧ w'.cell? ⟨g, Y * 9 + 8, none⟩ = some (.int .i64 Q.a.mx)) (by kernel_rfl) ?_ ?_ (fun hHeld => ?_)
          · trivial
          · exact ⟨c0, c1, c2, c3, c4, c5, c6, c7, c8, d0, d1, d2, d3, d4, d5, d6, d7, d8⟩
          refine wpAnyS_take (i := 0) (v := .slice (some ⟨g, 0, none⟩) n cap) _ rfl (by kernel_rfl) (by kernel_rfl) (by kernel_rfl) (by kernel_rfl) (by kernel_rfl) rfl (fun _ _ _ h => h) (Or.inl ⟨by rfl, ?_⟩) hHeld (fun hHeld => ?_)
          · (intro w1 hSw; have hSw := hSw.1; (try dsimp only at hSw); go_simp)
          simp only [List.getElem_toArray, List.getElem_cons_zero, Act.put, List.setIfInBounds_toArray, List.set_cons_zero, List.set_cons_succ]
          refine wpAnyS_take (i := 1) (v := .int .i64 (k : Int)) _ rfl (by kernel_rfl) (by kernel_rfl) (by kernel_rfl) (by kernel_rfl) (by kernel_rfl) rfl (fun _ _ _ h => h) (Or.inl ⟨by rfl, ?_⟩) hHeld (fun hHeld => ?_)
          · (intro w1 hSw; have hSw := hSw.1; (try dsimp only at hSw); go_simp)
          simp only [List.getElem_toArray, List.getElem_cons_succ, List.getElem_cons_zero, Act.put, List.setIfInBounds_toArray, List.set_cons_zero, List.set_cons_succ]
          refine wpAnyS_take (i := 2) (v := .slice (some ⟨g, 0, none⟩) n cap) _ rfl (by kernel_rfl) (by kernel_rfl) (by kernel_rfl) (by kernel_rfl) (by kernel_rfl) rfl (fun _ _ _ h => h) (Or.inl ⟨by rfl, ?_⟩) hHeld (fun hHeld => ?_)
          · (intro w1 hSw; have hSw := hSw.1; (try dsimp only at hSw); go_simp)
          simp only [List.getElem_toArray, List.getElem_cons_succ, List.getElem_cons_zero, Act.put, List.setIfInBounds_toArray, List.set_cons_zero, List.set_cons_succ]
          refine wpAnyS_take (i := 3) (v := .int .i64 (k : Int)) _ rfl (by kernel_rfl) (by kernel_rfl) (by kernel_rfl) (by kernel_rfl) (by kernel_rfl) rfl (fun _ _ _ h => h) (Or.inl ⟨by rfl, ?_⟩) hHeld (fun hHeld => ?_)
          · (intro w1 hSw; have hSw := hSw.1; (try dsimp only at hSw); go_simp)
          simp only [List.getElem_toArray, List.getElem_cons_succ, List.getElem_cons_zero, Act.put, List.setIfInBounds_toArray, List.set_cons_zero, List.set_cons_succ]
          refine wpAnyS_take (i := 4) (v := .int .i64 (Y : Int)) _ rfl (by kernel_rfl) (by kernel_rfl) (by kernel_rfl) (by kernel_rfl) (by kernel_rfl) rfl (fun _ _ _ h => h) (Or.inl ⟨by rfl, ?_⟩) hHeld (fun hHeld => ?_)
          · (intro w1 hSw; have hSw := hSw.1; (try dsimp only at hSw); go_simp; (first | (rw [IntKind.wrap_i64]; (try have hq := HXe.out); (try have hr := HYe.out); omega) | ((try have hq := HXe.out); (try have hr := HYe.out); omega)))
          simp only [List.getElem_toArray, List.getElem_cons_succ, List.getElem_cons_zero, Act.put, List.setIfInBounds_toArray, List.set_cons_zero, List.set_cons_succ]
          refine wpAnyS_take (i := 5) (v := .slice (some ⟨g, 0, none⟩) n cap) _ rfl (by kernel_rfl) (by kernel_rfl) (by kernel_rfl) (by kernel_rfl) (by kernel_rfl) rfl (fun _ _ _ h => h) (Or.inl ⟨by rfl, ?_⟩) hHeld (fun hHeld => ?_)
          · (intro w1 hSw; have hSw := hSw.1; (try dsimp only at hSw); go_simp)
          simp only [List.getElem_toArray, List.getElem_cons_succ, List.getElem_cons_zero, Act.put, List.setIfInBounds_toArray, List.set_cons_zero, List.set_cons_succ]
          refine wpAnyS_take (i := 6) (v := .int .i64 (k : Int)) _ rfl (by kernel_rfl) (by kernel_rfl) (by kernel_rfl) (by kernel_rfl) (by kernel_rfl) rfl (fun _ _ _ h => h) (Or.inl ⟨by rfl, ?_⟩) hHeld (fun hHeld => ?_)
          · (intro w1 hSw; have hSw := hSw.1; (try dsimp only at hSw); go_simp)
          simp only [List.getElem_toArray, List.getElem_cons_succ, List.getElem_cons_zero, Act.put, List.setIfInBounds_toArray, List.set_cons_zero, List.set_cons_succ]
          refine wpAnyS_take (i := 7) (v := .int .i64 (Y : Int)) _ rfl (by kernel_rfl) (by kernel_rfl) (by kernel_rfl) (by kernel_rfl) (by kernel_rfl) rfl (fun _ _ _ h => h) (Or.inl ⟨by rfl, ?_⟩) hHeld (fun hHeld => ?_)
          · (intro w1 hSw; have hSw := hSw.1; (try dsimp only at hSw); go_simp; (first | (rw [IntKind.wrap_i64]; (try have hq := HXe.out); (try have hr := HYe.out); omega) | ((try have hq := HXe.out); (try have hr := HYe.out); omega)))
          simp only [List.getElem_toArray, List.getElem_cons_succ, List.getElem_cons_zero, Act.put, List.setIfInBounds_toArray, List.set_cons_zero, List.set_cons_succ]
          refine wpAnyS_take (i := 8) (v := .pointer (some ⟨g, Y * 9, none⟩)) _ rfl (by kernel_rfl) (by kernel_rfl) (by kernel_rfl) (by kernel_rfl) (by kernel_rfl) rfl (fun _ _ _ h => h) (Or.inl ⟨by rfl, ?_⟩) hHeld (fun hHeld => ?_)
          · (intro w1 hSw; have hSw := hSw.1; (try dsimp only at hSw); go_simp)
          simp only [List.getElem_toArray, List.getElem_cons_succ, List.getElem_cons_zero, Act.put, List.setIfInBounds_toArray, List.set_cons_zero, List.set_cons_succ]
          refine wpAnyS_take (i := 9) (v := .agg #[.slice qa qn qc, .int .i64 Q.f, .int .i64 (Q.g : Int), .int .u64 Q.a.c, .bool Q.a.o, .int .i64 (hi Q.a.s), .int .u64 (lo Q.a.s), .int .i64 Q.a.mn, .int .i64 Q.a.mx]) true rfl (by kernel_rfl) (by kernel_rfl) (by kernel_rfl) (by kernel_rfl) (by kernel_rfl) (by kernel_rfl) (fun _ _ _ h => h) (Or.inl ⟨by rfl, ?_⟩) hHeld (fun hHeld => ?_)
          · (intro w1 hSw; have hSw2 := hSw.2 rfl; have hSw := hSw.1; (try dsimp only at hSw hSw2); go_simp)
          simp only [List.getElem_toArray, List.getElem_cons_succ, List.getElem_cons_zero, Act.put, List.setIfInBounds_toArray, List.set_cons_zero, List.set_cons_succ]
          refine wpAnyS_take (i := 10) (v := .slice (some ⟨g, 0, none⟩) n cap) _ rfl (by kernel_rfl) (by kernel_rfl) (by kernel_rfl) (by kernel_rfl) (by kernel_rfl) rfl (fun _ _ _ h => h) (Or.inl ⟨by rfl, ?_⟩) hHeld (fun hHeld => ?_)
          · (intro w1 hSw; have hSw := hSw.1; (try dsimp only at hSw); go_simp)
          simp only [List.getElem_toArray, List.getElem_cons_succ, List.getElem_cons_zero, Act.put, List.setIfInBounds_toArray, List.set_cons_zero, List.set_cons_succ]
          refine wpAnyS_take (i := 11) (v := .int .i64 (k : Int)) _ rfl (by kernel_rfl) (by kernel_rfl) (by kernel_rfl) (by kernel_rfl) (by kernel_rfl) rfl (fun _ _ _ h => h) (Or.inl ⟨by rfl, ?_⟩) hHeld (fun hHeld => ?_)
          · (intro w1 hSw; have hSw := hSw.1; (try dsimp only at hSw); go_simp)
          simp only [List.getElem_toArray, List.getElem_cons_succ, List.getElem_cons_zero, Act.put, List.setIfInBounds_toArray, List.set_cons_zero, List.set_cons_succ]
          refine wpAnyS_take (i := 12) (v := .pointer (some ⟨g, k * 9, none⟩)) _ rfl (by kernel_rfl) (by kernel_rfl) (by kernel_rfl) (by kernel_rfl) (by kernel_rfl) rfl (fun _ _ _ h => h) (Or.inl ⟨by rfl, ?_⟩) hHeld (fun hHeld => ?_)
          · (intro w1 hSw; have hSw := hSw.1; (try dsimp only at hSw); go_simp)
          simp only [List.getElem_toArray, List.getElem_cons_succ, List.getElem_cons_zero, Act.put, List.setIfInBounds_toArray, List.set_cons_zero, List.set_cons_succ]
          refine wpAnyS_take (i := 13) (v := .agg #[.slice pa pn pc, .int .i64 P.f, .int .i64 (P.g : Int), .int .u64 P.a.c, .bool P.a.o, .int .i64 (hi P.a.s), .int .u64 (lo P.a.s), .int .i64 P.a.mn, .int .i64 P.a.mx]) true rfl (by kernel_rfl) (by kernel_rfl) (by kernel_rfl) (by kernel_rfl) (by kernel_rfl) (by kernel_rfl) (fun _ _ _ h => h) (Or.inl ⟨by rfl, ?_⟩) hHeld (fun hHeld => ?_)
          · (intro w1 hSw; have hSw2 := hSw.2 rfl; have hSw := hSw.1; (try dsimp only at hSw hSw2); go_simp)
          simp only [List.getElem_toArray, List.getElem_cons_succ, List.getElem_cons_zero, Act.put, List.setIfInBounds_toArray, List.set_cons_zero, List.set_cons_succ]
          refine wpAnyS_take (i := 14) (v := .pointer (some ⟨g, k * 9, none⟩)) _ rfl (by kernel_rfl) (by kernel_rfl) (by kernel_rfl) (by kernel_rfl) (by kernel_rfl) rfl (fun _ _ _ h => h) (Or.inl ⟨by rfl, ?_⟩) hHeld (fun hHeld => ?_)
          · (intro w1 hSw; have hSw := hSw.1; (try dsimp only at hSw); go_simp)
          simp only [List.getElem_toArray, List.getElem_cons_succ, List.getElem_cons_zero, Act.put, List.setIfInBounds_toArray, List.set_cons_zero, List.set_cons_succ]
          refine wpAnyS_ready (i := 15) (by kernel_rfl) rfl (fun K hK => ?_)
          rw [if_pos (by rfl)]
          refine wp_storeN _ _ _ rfl g (k * 9) [.slice qa qn qc, .int .i64 Q.f, .int .i64 (Q.g : Int), .int .u64 Q.a.c, .bool Q.a.o, .int .i64 (hi Q.a.s), .int .u64 (lo Q.a.s), .int .i64 Q.a.mn, .int .i64 Q.a.mx] rfl rfl cur _ HCU.out (by simp; omega) (by kernel_rfl) (by kernel_rfl) (fun W0 hW0 => ?_)
          refine hK.out _ _ ⟨?_, fun hno => absurd hno (by decide)⟩ (fun hHeld => ?_)
          · trivial
          clear hK K
          refine wpAnyS_take (i := 16) (v := .pointer (some ⟨g, Y * 9, none⟩)) _ rfl (by kernel_rfl) (by kernel_rfl) (by kernel_rfl) (by kernel_rfl) (by kernel_rfl) rfl (fun _ _ _ h => h) (Or.inl ⟨by rfl, ?_⟩) hHeld (fun hHeld => ?_)
          · (intro w1 hSw; have hSw := hSw.1; (try dsimp only at hSw); go_simp)
          simp only [List.getElem_toArray, List.getElem_cons_succ, List.getElem_cons_zero, Act.put, List.setIfInBounds_toArray, List.set_cons_zero, List.set_cons_succ]
          refine wpAnyS_ready (i := 17) (by kernel_rfl) rfl (fun K hK => ?_)
          rw [if_pos (by rfl)]
          obtain ⟨cur2, hcu2, hcz2, _, _⟩ := hW0.c
          refine wp_storeN _ _ _ rfl g (Y * 9) [.slice pa pn pc, .int .i64 P.f, .int .i64 (P.g : Int), .int .u64 P.a.c, .bool P.a.o, .int .i64 (hi P.a.s), .int .u64 (lo P.a.s), .int .i64 P.a.mn, .int .i64 P.a.mx] rfl rfl cur2 _ hcu2 (by simp; omega) (by kernel_rfl) (by kernel_rfl) (fun W1 hW1 => ?_)
          refine hK.out _ _ ⟨?_, fun hno => absurd hno (by decide)⟩ (fun hHeld => ?_)
          · trivial
          clear hK K
          refine wpAnyS_done (by kernel_rfl) ?_ _
          refine NoPanic.normal ?_
          obtain ⟨l', hl'⟩ := (HI.out.below (Below.refl wr.heap.size wr).drew).swap2 HPg.out HQg.out HCU.out (by rw [HQc.out]; exact hW0) hcu2 (by rw [HPc.out]; exact hW1)
          have HN : Hid (PmI w base g n cap its0 l' W1) := hl'
          clear hW0 hW1 hl' c0 c1 c2 c3 c4 c5 c6 c7 c8 d0 d1 d2 d3 d4 d5 d6 d7 d8 hcu2 hcz2 hcs
          go_wp2_with fail
          go_roundw
          case rel => exact ⟨k + 1, l', by go_num, by omega, by omega, HN⟩
          case measure => simp [intOf]; omega
        · have hg1 : ¬ ((k : Int) < (i : Int) - 1) := by omega
          have HE : Hid (IsPost w base g n cap its0 (.returned (.tuple #[])) wr) := ⟨⟨_, rfl⟩, l, HI.out⟩
          go_wp2_with fail
          exact bodyPost_ret (results_none rfl _ _ _) rfl HE.out
set_option maxRecDepth 100000 in
set_option maxHeartbeats 8000000 in
theorem sym_two (w : World) (base g n cap : Nat) (its0 its : List It) (W : World) (h : PmI w base g n cap its0 its W) (hn : n ≤ 100000) (a m b : Nat) (hm1 : a + 1 < m) (hm2 : b ≤ m + 1) (hab : m < b) (hbn : b ≤ n) : SyC w base g n cap its0 a m b W := by
  have HI0 : Hid (PmI w base g n cap its0 its W) := h
  have hcapm := pm_cap h
  have eg := eg_order
  clear h
  unfold SyC
  have hs1 : ((m : Int) - (a : Int) == 1) = false := by simp; omega
  have hs2 : ((b : Int) - (m : Int) == 1) = true := by simp; omega
  go_enter Try.func76, Try.ntmps76
  go_wp2_with fail
  go_loopw [14, 15] (fun iv jv wr => ∃ (i j : Nat) (l : List It), iv = .int .i64 (i : Int) ∧ jv = .int .i64 (j : Int) ∧ a ≤ i ∧ i ≤ j ∧ j ≤ m ∧ Hid (PmI w base g n cap its0 l wr)) (fun iv jv _ => (intOf jv).toNat - (intOf iv).toNat)
  case atStart => exact ⟨a, m, its, rfl, rfl, by omega, by omega, by omega, HI0⟩
  case round =>
    clear HI0
    obtain ⟨i, j, l, rfl, rfl, hi1, hij, hjb, HI⟩ := hrel
    by_cases hlt : i < j
    · obtain ⟨Y, HYe⟩ := hid_ex ((i + j) / 2)
      have hX1 : i ≤ Y := by rw [HYe.out]; omega
      have hX2 : Y < j := by rw [HYe.out]; omega
      have hX3 : ((i : Int) + (j : Int)) / 2 = (Y : Int) := by rw [HYe.out]; omega
      have HX3 : Hid _ := hX3
      have hXn : m < n := by omega
      have hYn : Y < n := by omega
      clear hX3
      obtain ⟨P, pa, pn, pc, hPg, hPc, hPn⟩ := HI.out.nine hXn
      obtain ⟨Q, qa, qn, qc, hQg, hQc, hQn⟩ := HI.out.nine hYn
      have HOD : Hid (∀ V, Below wr.heap.size wr V → Calls Try.prog 36 #[.agg #[.slice pa pn pc, .int .i64 P.f, .int .i64 (P.g : Int), .int .u64 P.a.c, .bool P.a.o, .int .i64 (hi P.a.s), .int .u64 (lo P.a.s), .int .i64 P.a.mn, .int .i64 P.a.mx], .agg #[.slice qa qn qc, .int .i64 Q.f, .int .i64 (Q.g : Int), .int .u64 Q.a.c, .bool Q.a.o, .int .i64 (hi Q.a.s), .int .u64 (lo Q.a.s), .int .i64 Q.a.mn, .int .i64 Q.a.mx]] V (OdPost V)) := HI.out.ord hPg hQg hPc hQc
      have HPn : Hid _ := hPn
      have HQn : Hid _ := hQn
      clear hPg hQg hPc hQc hPn hQn
      go_wp2_with fail
      rw [HX3.out]
      refine wp_region_noPanic ?_
      refine wp_region_held_drew (S := (fun w' => Below wr.heap.size wr w')) (by kernel_rfl) ?_ (fun hHeld => ?_)
      · exact (Below.refl _ _).drew
      refine wpAnyH_take (i := 0) (v := .func (.func 36) #[] #[]) rfl (by kernel_rfl) (by kernel_rfl) (by kernel_rfl) (fun _ _ _ h => h) (Or.inl ⟨by rfl, ?_⟩) (by assumption) ?_
      · (intro w1 hSw; (try dsimp only at hSw); go_simp)
      simp only [List.getElem_toArray, List.getElem_cons_zero, Act.put, List.setIfInBounds_toArray, List.set_cons_zero, List.set_cons_succ]
      refine wpAnyH_take (i := 1) (v := .slice (some ⟨g, 0, none⟩) n cap) rfl (by kernel_rfl) (by kernel_rfl) (by kernel_rfl) (fun _ _ _ h => h) (Or.inl ⟨by rfl, ?_⟩) (by assumption) ?_
      · (intro w1 hSw; (try dsimp only at hSw); go_simp)
      simp only [List.getElem_toArray, List.getElem_cons_succ, List.getElem_cons_zero, Act.put, List.setIfInBounds_toArray, List.set_cons_zero, List.set_cons_succ]
      refine wpAnyH_take (i := 2) (v := .int .i64 (m : Int)) rfl (by kernel_rfl) (by kernel_rfl) (by kernel_rfl) (fun _ _ _ h => h) (Or.inl ⟨by rfl, ?_⟩) (by assumption) ?_
      · (intro w1 hSw; (try dsimp only at hSw); go_simp)
      simp only [List.getElem_toArray, List.getElem_cons_succ, List.getElem_cons_zero, Act.put, List.setIfInBounds_toArray, List.set_cons_zero, List.set_cons_succ]
      refine wpAnyH_take (i := 3) (v := .pointer (some ⟨g, m * 9, none⟩)) rfl (by kernel_rfl) (by kernel_rfl) (by kernel_rfl) (fun _ _ _ h => h) (Or.inl ⟨by rfl, ?_⟩) (by assumption) ?_
      · (intro w1 hSw; (try dsimp only at hSw); go_simp)
      simp only [List.getElem_toArray, List.getElem_cons_succ, List.getElem_cons_zero, Act.put, List.setIfInBounds_toArray, List.set_cons_zero, List.set_cons_succ]
      refine wpAnyH_take (i := 4) (v := .agg #[.slice pa pn pc, .int .i64 P.f, .int .i64 (P.g : Int), .int .u64 P.a.c, .bool P.a.o, .int .i64 (hi P.a.s), .int .u64 (lo P.a.s), .int .i64 P.a.mn, .int .i64 P.a.mx]) rfl (by kernel_rfl) (by kernel_rfl) (by kernel_rfl) (fun _ _ _ h => h) (Or.inl ⟨by rfl, ?_⟩) (by assumption) ?_
      · (intro w1 hSw; (try dsimp only at hSw); obtain ⟨c0, c1, c2, c3, c4, c5, c6, c7, c8⟩ := HPn.out _ hSw; go_simp)
      simp only [List.getElem_toArray, List.getElem_cons_succ, List.getElem_cons_zero, Act.put, List.setIfInBounds_toArray, List.set_cons_zero, List.set_cons_succ]
      refine wpAnyH_take (i := 5) (v := .slice (some ⟨g, 0, none⟩) n cap) rfl (by kernel_rfl) (by kernel_rfl) (by kernel_rfl) (fun _ _ _ h => h) (Or.inl ⟨by rfl, ?_⟩) (by assumption) ?_
      · (intro w1 hSw; (try dsimp only at hSw); go_simp)
      simp only [List.getElem_toArray, List.getElem_cons_succ, List.getElem_cons_zero, Act.put, List.setIfInBounds_toArray, List.set_cons_zero, List.set_cons_succ]
      refine wpAnyH_take (i := 6) (v := .int .i64 (Y : Int)) rfl (by kernel_rfl) (by kernel_rfl) (by kernel_rfl) (fun _ _ _ h => h) (Or.inl ⟨by rfl, ?_⟩) (by assumption) ?_
      · (intro w1 hSw; (try dsimp only at hSw); go_simp)
      simp only [List.getElem_toArray, List.getElem_cons_succ, List.getElem_cons_zero, Act.put, List.setIfInBounds_toArray, List.set_cons_zero, List.set_cons_succ]
      refine wpAnyH_take (i := 7) (v := .pointer (some ⟨g, Y * 9, none⟩)) rfl (by kernel_rfl) (by kernel_rfl) (by kernel_rfl) (fun _ _ _ h => h) (Or.inl ⟨by rfl, ?_⟩) (by assumption) ?_
      · (intro w1 hSw; (try dsimp only at hSw); go_simp)
      simp only [List.getElem_toArray, List.getElem_cons_succ, List.getElem_cons_zero, Act.put, List.setIfInBounds_toArray, List.set_cons_zero, List.set_cons_succ]
      refine wpAnyH_take (i := 8) (v := .agg #[.slice qa qn qc, .int .i64 Q.f, .int .i64 (Q.g : Int), .int .u64 Q.a.c, .bool Q.a.o, .int .i64 (hi Q.a.s), .int .u64 (lo Q.a.s), .int .i64 Q.a.mn, .int .i64 Q.a.mx]) rfl (by kernel_rfl) (by kernel_rfl) (by kernel_rfl) (fun _ _ _ h => h) (Or.inl ⟨by rfl, ?_⟩) (by assumption) ?_
      · (intro w1 hSw; (try dsimp only at hSw); obtain ⟨c0, c1, c2, c3, c4, c5, c6, c7, c8⟩ := HQn.out _ hSw; go_simp)
      simp only [List.getElem_toArray, List.getElem_cons_succ, List.getElem_cons_zero, Act.put, List.setIfInBounds_toArray, List.set_cons_zero, List.set_cons_succ]
      refine wpAnyH_ready (rs := [9]) (by kernel_rfl) (by simp) ?_
      refine AllReadyH.cons (o := _) rfl (fun K hK => ?_) AllReadyH.nil
      go_simp
      refine (HOD.out _ (Below.refl _ _).drew).mono ?_
      rintro e w4 ⟨c, rfl, _, _, hb4⟩
      have HW4 : Hid (Below wr.heap.size wr w4) := (Below.refl wr.heap.size wr).drew.trans hb4
      clear hb4
      refine hK.out _ _ ?_ (fun hHeld => ?_)
      · exact HW4.out
      clear hK K
      refine wpAnyH_take (i := 10) (v := .bool (decide (c < 0))) rfl (by kernel_rfl) (by kernel_rfl) (by kernel_rfl) (fun _ _ _ h => h) (Or.inl ⟨by rfl, ?_⟩) (by assumption) ?_
      · (intro w1 hSw; (try dsimp only at hSw); go_simp)
      simp only [List.getElem_toArray, List.getElem_cons_succ, List.getElem_cons_zero, Act.put, List.setIfInBounds_toArray, List.set_cons_zero, List.set_cons_succ]
      refine wpAnyH_take (i := 11) (v := .bool (!(decide (c < 0)))) rfl (by kernel_rfl) (by kernel_rfl) (by kernel_rfl) (fun _ _ _ h => h) (Or.inl ⟨by rfl, ?_⟩) (by assumption) ?_
      · (intro w1 hSw; (try dsimp only at hSw); go_simp)
      simp only [List.getElem_toArray, List.getElem_cons_succ, List.getElem_cons_zero, Act.put, List.setIfInBounds_toArray, List.set_cons_zero, List.set_cons_succ]
      clear hHeld
      refine wpAnyH_done (by kernel_rfl) ?_ _
      refine NoPanic.normal ?_
      have HI4 : Hid (PmI w base g n cap its0 l w4) := HI.out.below HW4.out
      obtain ⟨t, Ht⟩ := hid_ex (decide (c < 0))
      rw [← Ht.out]
      clear Ht HOD HPn HQn
      cases t with
      | true =>
        go_wp2_with fail
        go_roundw
        case rel => exact ⟨i, Y, l, rfl, rfl, by omega, by omega, by omega, HI4⟩
        case measure => simp [intOf]; omega
      | false =>
        go_wp2_with fail
        go_roundw
        case rel => exact ⟨Y + 1, j, l, by go_num, rfl, by omega, by omega, by omega, HI4⟩
        case measure => simp [intOf]; omega
    · go_wp2_with fail
      go_loopw [17] (fun kv wr => ∃ (k : Nat) (l : List It), kv = .int .i64 (k : Int) ∧ i ≤ k ∧ k ≤ m ∧ Hid (PmI w base g n cap its0 l wr)) (fun kv _ => (intOf kv).toNat)
      case atStart => exact ⟨m, l, rfl, by omega, by omega, HI⟩
      case round =>
        clear HI
        obtain ⟨k, l, rfl, hk1, hk2, HI⟩ := hrel
        by_cases hki : i < k
        · obtain ⟨Y, HYe⟩ := hid_ex (k - 1)
          have hXn : k < n := by omega
          have hYn : Y < n := by rw [HYe.out]; omega
          have hyk : i ≤ Y ∧ Y < k ∧ k ≤ Y + 1 := by rw [HYe.out]; omega
          obtain ⟨P, pa, pn, pc, hPg, hPc, hPn⟩ := HI.out.nine hXn
          obtain ⟨Q, qa, qn, qc, hQg, hQc, hQn⟩ := HI.out.nine hYn
          have HPg : Hid _ := hPg
          have HQg : Hid _ := hQg
          have HPc : Hid _ := hPc
          have HQc : Hid _ := hQc
          obtain ⟨c0, c1, c2, c3, c4, c5, c6, c7, c8⟩ := hPn _ (Below.refl _ _)
          obtain ⟨d0, d1, d2, d3, d4, d5, d6, d7, d8⟩ := hQn _ (Below.refl _ _)
          obtain ⟨cur, hcur, hcs⟩ := pmI_row HI.out
          have HCU : Hid _ := hcur
          clear hcur hPg hQg hPc hQc hPn hQn
          go_wp2_with fail
          refine wp_region_noPanic ?_
          refine wp_region_S 15 (fun _ => True) (fun w' => w'.cell? ⟨g, k * 9, none⟩ = some (.slice pa pn pc) ∧ w'.cell? ⟨g, k * 9 + 1, none⟩ = some (.int .i64 P.f) ∧ w'.cell? ⟨g, k * 9 + 2, none⟩ = some (.int .i64 (P.g : Int)) ∧ w'.cell? ⟨g, k * 9 + 3, none⟩ = some (.int .u64 P.a.c) ∧ w'.cell? ⟨g, k * 9 + 4, none⟩ = some (.bool P.a.o) ∧ w'.cell? ⟨g, k * 9 + 5, none⟩ = some (.int .i64 (hi P.a.s)) ∧ w'.cell? ⟨g, k * 9 + 6, none⟩ = some (.int .u64 (lo P.a.s)) ∧ w'.cell? ⟨g, k * 9 + 7, none⟩ = some (.int .i64 P.a.mn) ∧ w'.cell? ⟨g, k * 9 + 8, none⟩ = some (.int .i64 P.a.mx) ∧ w'.cell? ⟨g, Y * 9, none⟩ = some (.slice qa qn qc) ∧ w'.cell? ⟨g, Y * 9 + 1, none⟩ = some (.int .i64 Q.f) ∧ w'.cell? ⟨g, Y * 9 + 2, none⟩ = some (.int .i64 (Q.g : Int)) ∧ w'.cell? ⟨g, Y * 9 + 3, none⟩ = some (.int .u64 Q.a.c) ∧ w'.cell? ⟨g, Y * 9 + 4, none⟩ = some (.bool Q.a.o) ∧ w'.cell? ⟨g, Y * 9 + 5, none⟩ = some (.int .i64 (hi Q.a.s)) ∧ w'.cell? ⟨g, Y * 9 + 6, none⟩ = some (.int .u64 (lo Q.a.s)) ∧ w'.cell? ⟨g, Y * 9 + 7, none⟩ = some (.int .i64 Q.a.mn) ∧ w'.cell? ⟨g, Y * 9 + 8, none⟩ = some (.int .i64 Q.a.mx)) (by kernel_rfl) ?_ ?_ (fun hHeld => ?_)
          · trivial
          · exact ⟨c0, c1, c2, c3, c4, c5, c6, c7, c8, d0, d1, d2, d3, d4, d5, d6, d7, d8⟩
          refine wpAnyS_take (i := 0) (v := .slice (some ⟨g, 0, none⟩) n cap) _ rfl (by kernel_rfl) (by kernel_rfl) (by kernel_rfl) (by kernel_rfl) (by kernel_rfl) rfl (fun _ _ _ h => h) (Or.inl ⟨by rfl, ?_⟩) hHeld (fun hHeld => ?_)
          · (intro w1 hSw; have hSw := hSw.1; (try dsimp only at hSw); go_simp)
          simp only [List.getElem_toArray, List.getElem_cons_zero, Act.put, List.setIfInBounds_toArray, List.set_cons_zero, List.set_cons_succ]
          refine wpAnyS_take (i := 1) (v := .int .i64 (k : Int)) _ rfl (by kernel_rfl) (by kernel_rfl) (by kernel_rfl) (by kernel_rfl) (by kernel_rfl) rfl (fun _ _ _ h => h) (Or.inl ⟨by rfl, ?_⟩) hHeld (fun hHeld => ?_)
          · (intro w1 hSw; have hSw := hSw.1; (try dsimp only at hSw); go_simp)
          simp only [List.getElem_toArray, List.getElem_cons_succ, List.getElem_cons_zero, Act.put, List.setIfInBounds_toArray, List.set_cons_zero, List.set_cons_succ]
          refine wpAnyS_take (i := 2) (v := .slice (some ⟨g, 0, none⟩) n cap) _ rfl (by kernel_rfl) (by kernel_rfl) (by kernel_rfl) (by kernel_rfl) (by kernel_rfl) rfl (fun _ _ _ h => h) (Or.inl ⟨by rfl, ?_⟩) hHeld (fun hHeld => ?_)
          · (intro w1 hSw; have hSw := hSw.1; (try dsimp only at hSw); go_simp)
          simp only [List.getElem_toArray, List.getElem_cons_succ, List.getElem_cons_zero, Act.put, List.setIfInBounds_toArray, List.set_cons_zero, List.set_cons_succ]
          refine wpAnyS_take (i := 3) (v := .int .i64 (k : Int)) _ rfl (by kernel_rfl) (by kernel_rfl) (by kernel_rfl) (by kernel_rfl) (by kernel_rfl) rfl (fun _ _ _ h => h) (Or.inl ⟨by rfl, ?_⟩) hHeld (fun hHeld => ?_)
          · (intro w1 hSw; have hSw := hSw.1; (try dsimp only at hSw); go_simp)
          simp only [List.getElem_toArray, List.getElem_cons_succ, List.getElem_cons_zero, Act.put, List.setIfInBounds_toArray, List.set_cons_zero, List.set_cons_succ]
          refine wpAnyS_take (i := 4) (v := .int .i64 (Y : Int)) _ rfl (by kernel_rfl) (by kernel_rfl) (by kernel_rfl) (by kernel_rfl) (by kernel_rfl) rfl (fun _ _ _ h => h) (Or.inl ⟨by rfl, ?_⟩) hHeld (fun hHeld => ?_)
          · (intro w1 hSw; have hSw := hSw.1; (try dsimp only at hSw); go_simp; (first | (rw [IntKind.wrap_i64]; (try have hq := HXe.out); (try have hr := HYe.out); omega) | ((try have hq := HXe.out); (try have hr := HYe.out); omega)))
          simp only [List.getElem_toArray, List.getElem_cons_succ, List.getElem_cons_zero, Act.put, List.setIfInBounds_toArray, List.set_cons_zero, List.set_cons_succ]
          refine wpAnyS_take (i := 5) (v := .slice (some ⟨g, 0, none⟩) n cap) _ rfl (by kernel_rfl) (by kernel_rfl) (by kernel_rfl) (by kernel_rfl) (by kernel_rfl) rfl (fun _ _ _ h => h) (Or.inl ⟨by rfl, ?_⟩) hHeld (fun hHeld => ?_)
          · (intro w1 hSw; have hSw := hSw.1; (try dsimp only at hSw); go_simp)
          simp only [List.getElem_toArray, List.getElem_cons_succ, List.getElem_cons_zero, Act.put, List.setIfInBounds_toArray, List.set_cons_zero, List.set_cons_succ]
          refine wpAnyS_take (i := 6) (v := .int .i64 (k : Int)) _ rfl (by kernel_rfl) (by kernel_rfl) (by kernel_rfl) (by kernel_rfl) (by kernel_rfl) rfl (fun _ _ _ h => h) (Or.inl ⟨by rfl, ?_⟩) hHeld (fun hHeld => ?_)
          · (intro w1 hSw; have hSw := hSw.1; (try dsimp only at hSw); go_simp)
          simp only [List.getElem_toArray, List.getElem_cons_succ, List.getElem_cons_zero, Act.put, List.setIfInBounds_toArray, List.set_cons_zero, List.set_cons_succ]
          refine wpAnyS_take (i := 7) (v := .int .i64 (Y : Int)) _ rfl (by kernel_rfl) (by kernel_rfl) (by kernel_rfl) (by kernel_rfl) (by kernel_rfl) rfl (fun _ _ _ h => h) (Or.inl ⟨by rfl, ?_⟩) hHeld (fun hHeld => ?_)
          · (intro w1 hSw; have hSw := hSw.1; (try dsimp only at hSw); go_simp; (first | (rw [IntKind.wrap_i64]; (try have hq := HXe.out); (try have hr := HYe.out); omega) | ((try have hq := HXe.out); (try have hr := HYe.out); omega)))
          simp only [List.getElem_toArray, List.getElem_cons_succ, List.getElem_cons_zero, Act.put, List.setIfInBounds_toArray, List.set_cons_zero, List.set_cons_succ]
          refine wpAnyS_take (i := 8) (v := .pointer (some ⟨g, Y * 9, none⟩)) _ rfl (by kernel_rfl) (by kernel_rfl) (by kernel_rfl) (by kernel_rfl) (by kernel_rfl) rfl (fun _ _ _ h => h) (Or.inl ⟨by rfl, ?_⟩) hHeld (fun hHeld => ?_)
          · (intro w1 hSw; have hSw := hSw.1; (try dsimp only at hSw); go_simp)
          simp only [List.getElem_toArray, List.getElem_cons_succ, List.getElem_cons_zero, Act.put, List.setIfInBounds_toArray, List.set_cons_zero, List.set_cons_succ]
          refine wpAnyS_take (i := 9) (v := .agg #[.slice qa qn qc, .int .i64 Q.f, .int .i64 (Q.g : Int), .int .u64 Q.a.c, .bool Q.a.o, .int .i64 (hi Q.a.s), .int .u64 (lo Q.a.s), .int .i64 Q.a.mn, .int .i64 Q.a.mx]) true rfl (by kernel_rfl) (by kernel_rfl) (by kernel_rfl) (by kernel_rfl) (by kernel_rfl) (by kernel_rfl) (fun _ _ _ h => h) (Or.inl ⟨by rfl, ?_⟩) hHeld (fun hHeld => ?_)
          · (intro w1 hSw; have hSw2 := hSw.2 rfl; have hSw := hSw.1; (try dsimp only at hSw hSw2); go_simp)
          simp only [List.getElem_toArray, List.getElem_cons_succ, List.getElem_cons_zero, Act.put, List.setIfInBounds_toArray, List.set_cons_zero, List.set_cons_succ]
          refine wpAnyS_take (i := 10) (v := .slice (some ⟨g, 0, none⟩) n cap) _ rfl (by kernel_rfl) (by kernel_rfl) (by kernel_rfl) (by kernel_rfl) (by kernel_rfl) rfl (fun _ _ _ h => h) (Or.inl ⟨by rfl, ?_⟩) hHeld (fun hHeld => ?_)
          · (intro w1 hSw; have hSw := hSw.1; (try dsimp only at hSw); go_simp)
          simp only [List.getElem_toArray, List.getElem_cons_succ, List.getElem_cons_zero, Act.put, List.setIfInBounds_toArray, List.set_cons_zero, List.set_cons_succ]
          refine wpAnyS_take (i := 11) (v := .int .i64 (k : Int)) _ rfl (by kernel_rfl) (by kernel_rfl) (by kernel_rfl) (by kernel_rfl) (by kernel_rfl) rfl (fun _ _ _ h => h) (Or.inl ⟨by rfl, ?_⟩) hHeld (fun hHeld => ?_)
          · (intro w1 hSw; have hSw := hSw.1; (try dsimp only at hSw); go_simp)
          simp only [List.getElem_toArray, List.getElem_cons_succ, List.getElem_cons_zero, Act.put, List.setIfInBounds_toArray, List.set_cons_zero, List.set_cons_succ]
          refine wpAnyS_take (i := 12) (v := .pointer (some ⟨g, k * 9, none⟩)) _ rfl (by kernel_rfl) (by kernel_rfl) (by kernel_rfl) (by kernel_rfl) (by kernel_rfl) rfl (fun _ _ _ h => h) (Or.inl ⟨by rfl, ?_⟩) hHeld (fun hHeld => ?_)
          · (intro w1 hSw; have hSw := hSw.1; (try dsimp only at hSw); go_simp)
          simp only [List.getElem_toArray, List.getElem_cons_succ, List.getElem_cons_zero, Act.put, List.setIfInBounds_toArray, List.set_cons_zero, List.set_cons_succ]
          refine wpAnyS_take (i := 13) (v := .agg #[.slice pa pn pc, .int .i64 P.f, .int .i64 (P.g : Int), .int .u64 P.a.c, .bool P.a.o, .int .i64 (hi P.a.s), .int .u64 (lo P.a.s), .int .i64 P.a.mn, .int .i64 P.a.mx]) true rfl (by kernel_rfl) (by kernel_rfl) (by kernel_rfl) (by kernel_rfl) (by kernel_rfl) (by kernel_rfl) (fun _ _ _ h => h) (Or.inl ⟨by rfl, ?_⟩) hHeld (fun hHeld => ?_)
          · (intro w1 hSw; have hSw2 := hSw.2 rfl; have hSw := hSw.1; (try dsimp only at hSw hSw2); go_simp)
          simp only [List.getElem_toArray, List.getElem_cons_succ, List.getElem_cons_zero, Act.put, List.setIfInBounds_toArray, List.set_cons_zero, List.set_cons_succ]
          refine wpAnyS_take (i := 14) (v := .pointer (some ⟨g, k * 9, none⟩)) _ rfl (by kernel_rfl) (by kernel_rfl) (by kernel_rfl) (by kernel_rfl) (by kernel_rfl) rfl (fun _ _ _ h => h) (Or.inl ⟨by rfl, ?_⟩) hHeld (fun hHeld => ?_)
          · (intro w1 hSw; have hSw := hSw.1; (try dsimp only at hSw); go_simp)
          simp only [List.getElem_toArray, List.getElem_cons_succ, List.getElem_cons_zero, Act.put, List.setIfInBounds_toArray, List.set_cons_zero, List.set_cons_succ]
          refine wpAnyS_ready (i := 15) (by kernel_rfl) rfl (fun K hK => ?_)
          rw [if_pos (by rfl)]
          refine wp_storeN _ _ _ rfl g (k * 9) [.slice qa qn qc, .int .i64 Q.f, .int .i64 (Q.g : Int), .int .u64 Q.a.c, .bool Q.a.o, .int .i64 (hi Q.a.s), .int .u64 (lo Q.a.s), .int .i64 Q.a.mn, .int .i64 Q.a.mx] rfl rfl cur _ HCU.out (by simp; omega) (by kernel_rfl) (by kernel_rfl) (fun W0 hW0 => ?_)
          refine hK.out _ _ ⟨?_, fun hno => absurd hno (by decide)⟩ (fun hHeld => ?_)
          · trivial
          clear hK K
          refine wpAnyS_take (i := 16) (v := .pointer (some ⟨g, Y * 9, none⟩)) _ rfl (by kernel_rfl) (by kernel_rfl) (by kernel_rfl) (by kernel_rfl) (by kernel_rfl) rfl (fun _ _ _ h => h) (Or.inl ⟨by rfl, ?_⟩) hHeld (fun hHeld => ?_)
          · (intro w1 hSw; have hSw := hSw.1; (try dsimp only at hSw); go_simp)
          simp only [List.getElem_toArray, List.getElem_cons_succ, List.getElem_cons_zero, Act.put, List.setIfInBounds_toArray, List.set_cons_zero, List.set_cons_succ]
          refine wpAnyS_ready (i := 17) (by kernel_rfl) rfl (fun K hK => ?_)
          rw [if_pos (by rfl)]
          obtain ⟨cur2, hcu2, hcz2, _, _⟩ := hW0.c
          refine wp_storeN _ _ _ rfl g (Y * 9) [.slice pa pn pc, .int .i64 P.f, .int .i64 (P.g : Int), .int .u64 P.a.c, .bool P.a.o, .int .i64 (hi P.a.s), .int .u64 (lo P.a.s), .int .i64 P.a.mn, .int .i64 P.a.mx] rfl rfl cur2 _ hcu2 (by simp; omega) (by kernel_rfl) (by kernel_rfl) (fun W1 hW1 => ?_)
          refine hK.out _ _ ⟨?_, fun hno => absurd hno (by decide)⟩ (fun hHeld => ?_)
          · trivial
          clear hK K
          refine wpAnyS_done (by kernel_rfl) ?_ _
          refine NoPanic.normal ?_
          obtain ⟨l', hl'⟩ := (HI.out.below (Below.refl wr.heap.size wr).drew).swap2 HPg.out HQg.out HCU.out (by rw [HQc.out]; exact hW0) hcu2 (by rw [HPc.out]; exact hW1)
          have HN : Hid (PmI w base g n cap its0 l' W1) := hl'
          clear hW0 hW1 hl' c0 c1 c2 c3 c4 c5 c6 c7 c8 d0 d1 d2 d3 d4 d5 d6 d7 d8 hcu2 hcz2 hcs
          go_wp2_with fail
          go_roundw
          case rel => exact ⟨k - 1, l', by go_num, by omega, by omega, HN⟩
          case measure => simp [intOf]; omega
        · have HE : Hid (IsPost w base g n cap its0 (.returned (.tuple #[])) wr) := ⟨⟨_, rfl⟩, l, HI.out⟩
          go_wp2_with fail
          exact bodyPost_ret (results_none rfl _ _ _) rfl HE.out
end Go.Proofs.Ytbadjigfcncfcaa
