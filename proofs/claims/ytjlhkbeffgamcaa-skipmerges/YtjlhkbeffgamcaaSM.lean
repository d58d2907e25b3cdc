/- The walk of SkipMerges. -/
import Derived.Test.YtjlhkbeffgamcaaS17
namespace Go.Proofs.Ytjlhkbeffgamcaa
open Go.RowKit

theorem get_E {L0 : Nat} {E : List En} {fr : Bool} {w : World} {base : Nat} (hS : SK w base L0 E fr) (hs : srt E) (kv : Value) (key : Ks) (hR : Reads w kv key) :
    Calls Try.prog 18 #[.pointer (some ⟨L0, 0, none⟩), kv] w fun e w' => e = .returned (.tuple #[agv ((lkE E key).getD agZ), .bool (lkE E key).isSome]) ∧ Below w.heap.size w w' := by
  obtain ⟨N, hSL, rfl⟩ := hS
  rw [← gtF_lk hs]
  exact get_any _ _ _ _ _ _ _ _ hSL hR
theorem EReads.ok {w : World} {v : Value} {L : List En} (h : EReads w v L) : ∀ x ∈ L, AgOk x.2 := by
  obtain ⟨a, cap, rfl, _, _, h3⟩ := h
  intro x hx
  rcases h3 with rfl | ⟨b, off, _, _, h6⟩
  · cases hx
  · obtain ⟨j, hj, rfl⟩ := List.getElem_of_mem hx
    obtain ⟨_, _, _, g⟩ := h6 j hj
    exact g
theorem mrg_c {a b : Ag} (ha : 0 ≤ a.c ∧ a.c < 18446744073709551616) (hb : 0 ≤ b.c ∧ b.c < 18446744073709551616) : 0 ≤ (mrg a b).c ∧ (mrg a b).c < 18446744073709551616 := by
  unfold mrg
  split
  · exact hb
  · split
    · exact ha
    · dsimp only; unfold cntF; split <;> omega
theorem knE_c (M : List En) (k : Ks) (h : ∀ x ∈ M, AgOk x.2) : ∀ s : Ag, (0 ≤ s.c ∧ s.c < 18446744073709551616) → 0 ≤ (M.foldl (fun s x => if x.1 = k then mrg s x.2 else s) s).c ∧ (M.foldl (fun s x => if x.1 = k then mrg s x.2 else s) s).c < 18446744073709551616 := by
  induction M with
  | nil => intro s hs; exact hs
  | cons x M ih =>
    intro s hs
    rw [List.foldl_cons]
    refine ih (fun y hy => h y (List.mem_cons_of_mem _ hy)) _ ?_
    have hx := h x List.mem_cons_self
    split
    · exact mrg_c hs ⟨hx.c1, hx.c2⟩
    · exact hs
theorem take_step {L : List En} {k : Nat} (h : k < L.length) : L.take (k + 1) = L.take k ++ [L[k]] := by
  rw [List.take_add_one, List.getElem?_eq_getElem h]; rfl
set_option maxRecDepth 100000 in
set_option maxHeartbeats 2000000 in
theorem merges_walk (v : Value) (L : List En) (hv : Value) (hs : List UInt8) (ov : Value) (ot : List UInt8) (w : World) (hE : EReads w v L) (hH : Reads w hv hs) (hO : Reads w ov ot) :
    Calls Try.prog 8 #[v, hv, ov] w fun e w' => e = .returned (.bool true) ∧ Below w.heap.size w w' := by
  have HE : Hid (EReads w v L) := hE
  have HH : Hid (Reads w hv hs) := hH
  have HOt : Hid (Reads w ov ot) := hO
  obtain ⟨a, cap, rfl, hcap, hm, hE3⟩ := hE
  obtain ⟨ah, ch, rfl, _⟩ := hH.form
  obtain ⟨ao, co, rfl, _⟩ := hO.form
  unfold maxLen at hm
  have HE3 : Hid _ := hE3
  clear hE3 hH hO
  go_enter Try.func8, Try.ntmps8
  by_cases g1 : (100 : Int) < (L.length : Int)
  · go_wp2_with fail
    refine (alive_any _).mono ?_
    rintro e w4 ⟨rfl, hb4⟩
    go_wp2_with fail
    go_ret
    exact ⟨rfl, hb4⟩
  by_cases g2 : (1000 : Int) < (ot.length : Int)
  · go_wp2_with fail
    refine (alive_any _).mono ?_
    rintro e w4 ⟨rfl, hb4⟩
    go_wp2_with fail
    go_ret
    exact ⟨rfl, hb4⟩
  go_wp2_with fail
  refine (put8_any _ L _ hs 0 (by decide) (by omega) _ HE.out HH.out).mono ?_
  rintro e w1 ⟨hb1, ⟨L0, rfl, hs1, hok⟩ | ⟨rfl, hno⟩⟩
  · rw [rot_zero] at hs1
    have HS1 : Hid (SK w1 w.heap.size L0 (putL [] L) false) := hs1
    have HB1 : Hid (Below w.heap.size w w1) := hb1
    clear hs1 hb1
    go_wp2_with fail
    go_loopw [8, 9] (fun th i wr => ∃ k : Nat, k ≤ L.length ∧ i = .int .i64 (k : Int) ∧ th = .bool (hasE (L.take k) ot) ∧ Hid (SK wr w.heap.size L0 (putL [] L) false) ∧ Hid (Below w.heap.size w wr)) (fun _ i _ => L.length - (intOf i).toNat)
    case atStart => exact ⟨0, by omega, rfl, rfl, HS1, HB1⟩
    case round =>
      rename World => wo
      obtain ⟨k, hk, rfl, rfl, HS, HB⟩ := hrel
      clear HS1 HB1
      obtain ⟨th, HTH⟩ := hid_ex (hasE (L.take k) ot)
      rw [← HTH.out]
      by_cases hlt : k < L.length
      · obtain ⟨bA, oA, rfl, hbA, hA⟩ := HE3.out.resolve_left (fun h => by rw [h] at hlt; simp at hlt)
        have HA : Hid _ := hA
        obtain ⟨kvk, hck, hRk, _⟩ := hA k hlt
        have HCK : Hid (w.cell? ⟨bA, oA + k * 7, none⟩ = some kvk) := by
          have h1 := hck 0 (by decide)
          rw [show oA + (7 * k + 0) = oA + k * 7 by omega] at h1
          exact h1
        obtain ⟨X, HX⟩ := hid_ex L[k]
        rw [← HX.out] at hRk
        have HRk : Hid (Reads w kvk X.1) := hRk
        obtain ⟨ak, ck, rfl, _⟩ := hRk.form
        clear hA hck hRk
        have HAl : Hid (Below wo.heap.size wo (wo.alloc (.cells #[.int .u64 0, .bool false, .int .i64 0, .int .u64 0, .int .i64 0, .int .i64 0] 34))) := (Below.refl _ _).alloc (Nat.le_refl _) _
        obtain ⟨w0, HW0⟩ := hid_ex (wo.alloc (.cells #[.int .u64 0, .bool false, .int .i64 0, .int .u64 0, .int .i64 0, .int .i64 0] 34))
        have HZ : Hid (w0.heap[wo.heap.size]? = some (.cells #[.int .u64 (knE (L.take 0) X.1).c, .bool (knE (L.take 0) X.1).o, .int .i64 (hi (knE (L.take 0) X.1).s), .int .u64 (lo (knE (L.take 0) X.1).s), .int .i64 (knE (L.take 0) X.1).mn, .int .i64 (knE (L.take 0) X.1).mx] 34)) := by rw [HW0.out]; exact World.alloc_heap_new _ _
        rw [← HW0.out] at HAl
        go_wp2_with fail
        rw [← HW0.out]
        go_loopw [11] (fun i wi => ∃ m : Nat, m ≤ L.length ∧ i = .int .i64 (m : Int) ∧ Hid (wi.heap[wo.heap.size]? = some (.cells #[.int .u64 (knE (L.take m) X.1).c, .bool (knE (L.take m) X.1).o, .int .i64 (hi (knE (L.take m) X.1).s), .int .u64 (lo (knE (L.take m) X.1).s), .int .i64 (knE (L.take m) X.1).mn, .int .i64 (knE (L.take m) X.1).mx] 34)) ∧ Hid (Below wo.heap.size wo wi)) (fun i _ => L.length - (intOf i).toNat)
        case atStart => exact ⟨0, by omega, rfl, HZ, HAl⟩
        case round =>
          obtain ⟨m, hm', rfl, HZi, HBi⟩ := hrel
          clear HZ HAl HW0
          have HBW : Hid (Below w.heap.size w wr) := HB.out.trans (HBi.out.mono HB.out.size)
          have q0 := (HBW.out.cell (p := ⟨bA, oA + k * 7, none⟩) hbA).trans HCK.out
          by_cases hlm : m < L.length
          · obtain ⟨kvm, hcm, hRm, hAm⟩ := HA.out m hlm
            obtain ⟨Y, HY⟩ := hid_ex L[m]
            rw [← HY.out] at hRm hAm hcm
            have hq : ∀ i (hi : i < 7), wr.cell? ⟨bA, oA + m * 7 + i, none⟩ = some ((c7 ⟨kvm, Y.1, Y.2⟩)[i]'hi) := fun i hi => by
              rw [show oA + m * 7 + i = oA + (7 * m + i) by omega]
              exact (HBW.out.cell (p := ⟨bA, _, none⟩) hbA).trans (hcm i hi)
            obtain ⟨am, cm, rfl, _⟩ := hRm.form
            have c0 := hq 0 (by decide)
            have c1 := hq (1 + 0) (by decide)
            have c2 := hq (1 + 1) (by decide)
            have c3 := hq (1 + 2) (by decide)
            have c4 := hq (1 + 3) (by decide)
            have c5 := hq (1 + 4) (by decide)
            have c6 := hq (1 + 5) (by decide)
            simp only [c7, List.getElem_cons_zero, List.getElem_cons_succ, Nat.add_zero, Nat.reduceAdd] at c0 c1 c2 c3 c4 c5 c6
            have hq1 : ∀ n, (convert 29 9 (.slice am Y.1.length cm)).run Try.prog (wr.drewN n) = .ok (.string ⟨Y.1.toArray⟩) (wr.drewN n) := fun n => reads_text (hRm.below (below_drewN HBW.out n))
            have hq2 : ∀ n, (convert 29 9 (.slice ak X.1.length ck)).run Try.prog (wr.drewN n) = .ok (.string ⟨X.1.toArray⟩) (wr.drewN n) := fun n => reads_text (HRk.out.below (below_drewN HBW.out n))
            clear hq hcm
            go_wp2_with fail
            go_quiet (fail)
            clear hq1 hq2
            have HBq : Hid (Below wo.heap.size wo (wr.drewN nq)) := below_drewN HBi.out nq
            have HZq : Hid ((wr.drewN nq).heap[wo.heap.size]? = _) := HZi.out
            by_cases hkk : Y.1 = X.1
            · have hbe : (Y.1 == X.1) = true := by simp [hkk]
              rw [hbe]
              obtain ⟨kn, HKN⟩ := hid_ex (knE (L.take m) X.1)
              rw [← HKN.out] at HZi
              have HZe : Hid (knE (L.take (m + 1)) X.1 = mrg kn Y.2) := by unfold Hid; rw [take_step hlm, knE_snoc, ← HY.out, if_pos hkk, ← HKN.out]
              have HKC : Hid (0 ≤ kn.c ∧ kn.c < 18446744073709551616) := by rw [HKN.out]; exact knE_c _ _ (fun x hx => HE.out.ok x (List.mem_of_mem_take hx)) agZ ⟨by decide, by decide⟩
              obtain ⟨z0, f0⟩ := cell_row HZi.out 0 (by simp)
              obtain ⟨z1, f1⟩ := cell_row HZi.out 1 (by simp)
              obtain ⟨z2, f2⟩ := cell_row HZi.out 2 (by simp)
              obtain ⟨z3, f3⟩ := cell_row HZi.out 3 (by simp)
              obtain ⟨z4, f4⟩ := cell_row HZi.out 4 (by simp)
              obtain ⟨z5, f5⟩ := cell_row HZi.out 5 (by simp)
              simp only [List.getElem_toArray, List.getElem_cons_succ, List.getElem_cons_zero] at z0 z1 z2 z3 z4 z5
              go_wp2_with fail
              refine wp_region_noPanic ?_
              refine wp_region_held_drew (S := (fun w' => Below wo.heap.size wo w')) (by kernel_rfl) ?_ (fun hHeld => ?_)
              · exact HBq.out.drew
              refine wpAnyH_take (i := 1) (v := .slice (some ⟨bA, oA, none⟩) L.length cap) rfl (by kernel_rfl) (by kernel_rfl) (by kernel_rfl) (fun _ _ _ h => h) (Or.inl ⟨by rfl, ?_⟩) (by assumption) ?_
              · (intro w1 hSw; (try dsimp only at hSw); go_simp)
              simp only [List.getElem_toArray, List.getElem_cons_succ, List.getElem_cons_zero, Act.put, List.setIfInBounds_toArray, List.set_cons_zero, List.set_cons_succ]
              refine wpAnyH_take (i := 2) (v := .int .i64 (m : Int)) rfl (by kernel_rfl) (by kernel_rfl) (by kernel_rfl) (fun _ _ _ h => h) (Or.inl ⟨by rfl, ?_⟩) (by assumption) ?_
              · (intro w1 hSw; (try dsimp only at hSw); go_simp)
              simp only [List.getElem_toArray, List.getElem_cons_succ, List.getElem_cons_zero, Act.put, List.setIfInBounds_toArray, List.set_cons_zero, List.set_cons_succ]
              refine wpAnyH_take (i := 3) (v := .pointer (some ⟨bA, oA + m * 7, none⟩)) rfl (by kernel_rfl) (by kernel_rfl) (by kernel_rfl) (fun _ _ _ h => h) (Or.inl ⟨by rfl, ?_⟩) (by assumption) ?_
              · (intro w1 hSw; (try dsimp only at hSw); go_simp)
              simp only [List.getElem_toArray, List.getElem_cons_succ, List.getElem_cons_zero, Act.put, List.setIfInBounds_toArray, List.set_cons_zero, List.set_cons_succ]
              refine wpAnyH_take (i := 4) (v := .pointer (some ⟨bA, oA + m * 7 + 1, none⟩)) rfl (by kernel_rfl) (by kernel_rfl) (by kernel_rfl) (fun _ _ _ h => h) (Or.inl ⟨by rfl, ?_⟩) (by assumption) ?_
              · (intro w1 hSw; (try dsimp only at hSw); go_simp)
              simp only [List.getElem_toArray, List.getElem_cons_succ, List.getElem_cons_zero, Act.put, List.setIfInBounds_toArray, List.set_cons_zero, List.set_cons_succ]
              refine wpAnyH_ready (rs := [0, 5]) (by kernel_rfl) (by simp) ?_
              refine AllReadyH.cons (o := _) rfl (fun K hK => ?_) (AllReadyH.cons (o := _) rfl (fun K hK => ?_) AllReadyH.nil)
              · go_simp
                refine hK.out _ _ ?_ (fun hHeld => ?_)
                · exact hHeld
                clear hK K
                refine wpAnyH_ready (rs := [5]) (by kernel_rfl) (by simp) ?_
                refine AllReadyH.cons (o := _) rfl (fun K hK => ?_) AllReadyH.nil
                go_simp
                refine hK.out _ _ ?_ (fun hHeld => ?_)
                · exact hHeld
                clear hK K
                refine wpAnyH_ready (rs := [6]) (by kernel_rfl) (by simp) ?_
                refine AllReadyH.cons (o := _) rfl (fun K hK => ?_) AllReadyH.nil
                go_simp
                refine (merge_any kn Y.2 HKC.out.1 HKC.out.2 hAm.c1 hAm.c2 (wr.drewN nq).drew).mono ?_
                rintro e w5 ⟨rfl, hb5⟩
                have HZ5 : Hid (w5.heap[wo.heap.size]? = _) := (hb5.block _ (Array.getElem?_eq_some_iff.1 HZi.out).1).trans HZi.out
                have HB5 : Hid (Below wo.heap.size wo w5) := HBq.out.drew.trans (hb5.mono HBq.out.size)
                clear hb5 z0 z1 z2 z3 z4 z5 f0 f1 f2 f3 f4 f5 c0 c1 c2 c3 c4 c5 c6 q0
                refine hK.out _ _ ?_ (fun hHeld => ?_)
                · exact HB5.out
                clear hK K
                obtain ⟨mk, HMK⟩ := hid_ex (mrg kn Y.2)
                rw [← HMK.out] at HZe
                rw [← HMK.out]
                obtain ⟨z0, f0⟩ := cell_row HZ5.out 0 (by simp)
                obtain ⟨z1, f1⟩ := cell_row HZ5.out 1 (by simp)
                obtain ⟨z2, f2⟩ := cell_row HZ5.out 2 (by simp)
                obtain ⟨z3, f3⟩ := cell_row HZ5.out 3 (by simp)
                obtain ⟨z4, f4⟩ := cell_row HZ5.out 4 (by simp)
                obtain ⟨z5, f5⟩ := cell_row HZ5.out 5 (by simp)
                simp only [List.getElem_toArray, List.getElem_cons_succ, List.getElem_cons_zero] at z0 z1 z2 z3 z4 z5
                have HBE : Hid (Below wo.heap.size wo _) := below6 HB5.out (Nat.le_refl _) 0 (.int .u64 mk.c) (.bool mk.o) (.int .i64 (hi mk.s)) (.int .u64 (lo mk.s)) (.int .i64 mk.mn) (.int .i64 mk.mx)
                have HZE : Hid _ := set6 HZ5.out (.int .u64 mk.c) (.bool mk.o) (.int .i64 (hi mk.s)) (.int .u64 (lo mk.s)) (.int .i64 mk.mn) (.int .i64 mk.mx)
                refine wpAnyH_ready (rs := [7]) (by kernel_rfl) (by simp) ?_
                refine AllReadyH.cons (o := _) rfl (fun K hK => ?_) AllReadyH.nil
                go_simp
                refine hK.out _ _ ?_ (fun hHeld => ?_)
                · exact HBE.out
                clear hK K
                clear hHeld z0 z1 z2 z3 z4 z5 f0 f1 f2 f3 f4 f5
                refine wpAnyH_done (by kernel_rfl) ?_ _
                refine NoPanic.normal ?_
                go_wp2_with fail
                go_roundw
                case rel =>
                  refine ⟨m + 1, by omega, by go_num, ?_, HBE⟩
                  rw [HZe.out]
                  exact HZE
                case measure => simp [intOf]; omega
              · go_simp
                refine hK.out _ _ ?_ (fun hHeld => ?_)
                · exact hHeld
                clear hK K
                refine wpAnyH_ready (rs := [0]) (by kernel_rfl) (by simp) ?_
                refine AllReadyH.cons (o := _) rfl (fun K hK => ?_) AllReadyH.nil
                go_simp
                refine hK.out _ _ ?_ (fun hHeld => ?_)
                · exact hHeld
                clear hK K
                refine wpAnyH_ready (rs := [6]) (by kernel_rfl) (by simp) ?_
                refine AllReadyH.cons (o := _) rfl (fun K hK => ?_) AllReadyH.nil
                go_simp
                refine (merge_any kn Y.2 HKC.out.1 HKC.out.2 hAm.c1 hAm.c2 (wr.drewN nq).drew).mono ?_
                rintro e w5 ⟨rfl, hb5⟩
                have HZ5 : Hid (w5.heap[wo.heap.size]? = _) := (hb5.block _ (Array.getElem?_eq_some_iff.1 HZi.out).1).trans HZi.out
                have HB5 : Hid (Below wo.heap.size wo w5) := HBq.out.drew.trans (hb5.mono HBq.out.size)
                clear hb5 z0 z1 z2 z3 z4 z5 f0 f1 f2 f3 f4 f5 c0 c1 c2 c3 c4 c5 c6 q0
                refine hK.out _ _ ?_ (fun hHeld => ?_)
                · exact HB5.out
                clear hK K
                obtain ⟨mk, HMK⟩ := hid_ex (mrg kn Y.2)
                rw [← HMK.out] at HZe
                rw [← HMK.out]
                obtain ⟨z0, f0⟩ := cell_row HZ5.out 0 (by simp)
                obtain ⟨z1, f1⟩ := cell_row HZ5.out 1 (by simp)
                obtain ⟨z2, f2⟩ := cell_row HZ5.out 2 (by simp)
                obtain ⟨z3, f3⟩ := cell_row HZ5.out 3 (by simp)
                obtain ⟨z4, f4⟩ := cell_row HZ5.out 4 (by simp)
                obtain ⟨z5, f5⟩ := cell_row HZ5.out 5 (by simp)
                simp only [List.getElem_toArray, List.getElem_cons_succ, List.getElem_cons_zero] at z0 z1 z2 z3 z4 z5
                have HBE : Hid (Below wo.heap.size wo _) := below6 HB5.out (Nat.le_refl _) 0 (.int .u64 mk.c) (.bool mk.o) (.int .i64 (hi mk.s)) (.int .u64 (lo mk.s)) (.int .i64 mk.mn) (.int .i64 mk.mx)
                have HZE : Hid _ := set6 HZ5.out (.int .u64 mk.c) (.bool mk.o) (.int .i64 (hi mk.s)) (.int .u64 (lo mk.s)) (.int .i64 mk.mn) (.int .i64 mk.mx)
                refine wpAnyH_ready (rs := [7]) (by kernel_rfl) (by simp) ?_
                refine AllReadyH.cons (o := _) rfl (fun K hK => ?_) AllReadyH.nil
                go_simp
                refine hK.out _ _ ?_ (fun hHeld => ?_)
                · exact HBE.out
                clear hK K
                clear hHeld z0 z1 z2 z3 z4 z5 f0 f1 f2 f3 f4 f5
                refine wpAnyH_done (by kernel_rfl) ?_ _
                refine NoPanic.normal ?_
                go_wp2_with fail
                go_roundw
                case rel =>
                  refine ⟨m + 1, by omega, by go_num, ?_, HBE⟩
                  rw [HZe.out]
                  exact HZE
                case measure => simp [intOf]; omega
            · have hbe : (Y.1 == X.1) = false := by simp [hkk]
              rw [hbe]
              have HZe : Hid ((wr.drewN nq).heap[wo.heap.size]? = some (.cells #[.int .u64 (knE (L.take (m + 1)) X.1).c, .bool (knE (L.take (m + 1)) X.1).o, .int .i64 (hi (knE (L.take (m + 1)) X.1).s), .int .u64 (lo (knE (L.take (m + 1)) X.1).s), .int .i64 (knE (L.take (m + 1)) X.1).mn, .int .i64 (knE (L.take (m + 1)) X.1).mx] 34)) := by
                rw [take_step hlm, knE_snoc, ← HY.out, if_neg hkk]; exact HZi.out
              clear HZi HBi HZq c0 c1 c2 c3 c4 c5 c6 q0
              go_wp2_with fail
              go_roundw
              case rel => exact ⟨m + 1, by omega, by go_num, HZe, HBq⟩
              case measure => simp [intOf]; omega
          · go_wp2_with fail
            have hmL : m = L.length := by omega
            have hXL : hasE L X.1 = true := by
              unfold hasE
              rw [List.any_eq_true]
              exact ⟨L[k], List.getElem_mem hlt, by rw [← HX.out]; simp⟩
            have HG : Hid _ := get_E (HS.out.below HBi.out) (putL_srt L) _ X.1 (HRk.out.below HBW.out)
            rw [putL_lk, if_pos hXL] at HG
            rw [hmL, List.take_length] at HZi
            obtain ⟨Kn, HKn⟩ := hid_ex (knE L X.1)
            rw [← HKn.out] at HG HZi
            refine Calls.mono HG.out ?_
            rintro e w2 ⟨rfl, hb2⟩
            have HZ2 : Hid (w2.heap[wo.heap.size]? = _) := (hb2.block _ (Array.getElem?_eq_some_iff.1 HZi.out).1).trans HZi.out
            have HB2 : Hid (Below wo.heap.size wo w2) := HBi.out.trans (hb2.mono HBi.out.size)
            have hlt2 := (Array.getElem?_eq_some_iff.1 HZ2.out).1
            clear hb2 HG HZi HBi HBW q0
            simp only [Option.getD_some, Option.isSome_some]
            unfold agv
            have HB3 : Hid (Below wo.heap.size wo (w2.alloc (.cells #[.int .u64 Kn.c, .bool Kn.o, .int .i64 (hi Kn.s), .int .u64 (lo Kn.s), .int .i64 Kn.mn, .int .i64 Kn.mx] 34))) := HB2.out.alloc HB2.out.size _
            have HZ3 : Hid ((w2.alloc (.cells #[.int .u64 Kn.c, .bool Kn.o, .int .i64 (hi Kn.s), .int .u64 (lo Kn.s), .int .i64 Kn.mn, .int .i64 Kn.mx] 34)).heap[wo.heap.size]? = _) := (((Below.refl w2.heap.size w2).alloc (Nat.le_refl _) _).block _ hlt2).trans HZ2.out
            obtain ⟨z0, _⟩ := cell_row HZ3.out 0 (by simp)
            obtain ⟨z1, _⟩ := cell_row HZ3.out 1 (by simp)
            obtain ⟨z2, _⟩ := cell_row HZ3.out 2 (by simp)
            obtain ⟨z3, _⟩ := cell_row HZ3.out 3 (by simp)
            obtain ⟨z4, _⟩ := cell_row HZ3.out 4 (by simp)
            obtain ⟨z5, _⟩ := cell_row HZ3.out 5 (by simp)
            simp only [List.getElem_toArray, List.getElem_cons_succ, List.getElem_cons_zero] at z0 z1 z2 z3 z4 z5
            go_wp2_with fail
            clear z0 z1 z2 z3 z4 z5 HZ3 HZ2 HB2
            obtain ⟨w3, HW3⟩ := hid_ex (w2.alloc (.cells #[.int .u64 Kn.c, .bool Kn.o, .int .i64 (hi Kn.s), .int .u64 (lo Kn.s), .int .i64 Kn.mn, .int .i64 Kn.mx] 34))
            rw [← HW3.out] at HB3
            rw [← HW3.out]
            clear HW3
            have HBW3 : Hid (Below w.heap.size w w3) := HB.out.trans (HB3.out.mono HB.out.size)
            have q3 := (HBW3.out.cell (p := ⟨bA, oA + k * 7, none⟩) hbA).trans HCK.out
            have hq1 : ∀ n, (convert 29 9 (.slice ak X.1.length ck)).run Try.prog (w3.drewN n) = .ok (.string ⟨X.1.toArray⟩) (w3.drewN n) := fun n => reads_text (HRk.out.below (below_drewN HBW3.out n))
            have hq2 : ∀ n, (convert 29 9 (.slice ao ot.length co)).run Try.prog (w3.drewN n) = .ok (.string ⟨ot.toArray⟩) (w3.drewN n) := fun n => reads_text (HOt.out.below (below_drewN HBW3.out n))
            have HTE : Hid (hasE (L.take (k + 1)) ot = (th || (X.1 == ot))) := by
              unfold Hid
              rw [take_step hlt, hasE_snoc, ← HX.out, ← HTH.out]
              congr 1
              rw [Bool.eq_iff_iff]; simp
            clear HTH
            cases th
            · go_quiet (fail)
              clear hq1 hq2 q3
              have HS3 : Hid (SK (w3.drewN nq) w.heap.size L0 (putL [] L) false) := HS.out.below (below_drewN HB3.out nq)
              have HB3' : Hid (Below w.heap.size w (w3.drewN nq)) := below_drewN HBW3.out nq
              go_wp2_with fail
              go_roundw
              case rel => exact ⟨k + 1, by omega, by go_num, by rw [HTE.out]; simp, HS3, HB3'⟩
              case measure => simp [intOf]; omega
            · go_quiet (fail)
              clear hq1 hq2 q3
              have HS3 : Hid (SK (w3.drewN nq) w.heap.size L0 (putL [] L) false) := HS.out.below (below_drewN HB3.out nq)
              have HB3' : Hid (Below w.heap.size w (w3.drewN nq)) := below_drewN HBW3.out nq
              go_wp2_with fail
              go_roundw
              case rel => exact ⟨k + 1, by omega, by go_num, by rw [HTE.out]; simp, HS3, HB3'⟩
              case measure => simp [intOf]; omega
      · go_wp2_with fail
        have hkL : k = L.length := by omega
        rw [hkL, List.take_length] at HTH
        have HG : Hid _ := get_E HS.out (putL_srt L) _ ot (HOt.out.below HB.out)
        rw [putL_lk] at HG
        refine Calls.mono HG.out ?_
        rintro e w2 ⟨rfl, hb2⟩
        have HB2 : Hid (Below w.heap.size w w2) := HB.out.trans (hb2.mono HB.out.size)
        obtain ⟨rs, HRS⟩ := hid_ex ((if hasE L ot = true then some (knE L ot) else none).getD agZ)
        have his : (if hasE L ot = true then some (knE L ot) else none).isSome = th := by rw [HTH.out]; cases hasE L ot <;> rfl
        rw [← HRS.out, his]
        clear hb2 HG HRS his HS HTH
        unfold agv
        have HBa : Hid (Below w.heap.size w (w2.alloc (.cells #[.int .u64 rs.c, .bool rs.o, .int .i64 (hi rs.s), .int .u64 (lo rs.s), .int .i64 rs.mn, .int .i64 rs.mx] 34))) := HB2.out.alloc HB2.out.size _
        go_wp2_with fail
        refine (alive_any _).mono ?_
        rintro e w4 ⟨rfl, hb4⟩
        have HB4 : Hid (Below w.heap.size w w4) := HBa.out.trans (hb4.mono HBa.out.size)
        clear hb4
        cases th
        · go_wp2_with fail
          go_ret
          exact ⟨rfl, HB4.out⟩
        · go_wp2_with fail
          go_ret
          exact ⟨rfl, HB4.out⟩
  · go_wp2_with fail
    refine (alive_any _).mono ?_
    rintro e w4 ⟨rfl, hb4⟩
    have HB4 : Hid (Below w.heap.size w w4) := hb1.trans (hb4.mono hb1.size)
    clear hb4 hb1
    go_wp2_with fail
    go_ret
    exact ⟨rfl, HB4.out⟩
end Go.Proofs.Ytjlhkbeffgamcaa
