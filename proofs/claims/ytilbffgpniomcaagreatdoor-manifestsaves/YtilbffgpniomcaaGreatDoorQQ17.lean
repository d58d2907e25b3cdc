/- MA4x, joined. -/
import Derived.Test.YtilbffgpniomcaaGreatDoorQQ16
/- The reference of layer 13: Right (written by mkma4.py). -/
namespace Go.Proofs.YtilbffgpniomcaaGreatDoor
open Go.RowKit Go.Shelf

theorem okRs_of2 {L : List Ru} {ne : Int} (h64 : L.length ≤ 64) (h : ∀ i (hi : i < L.length), fitR L[i] ne ∧ ∀ k (hk : k < i), prR (L[k]'(by omega)) L[i]) : okRs L ne :=
  ⟨h64, fun r hr => by obtain ⟨j, hj, rfl⟩ := List.getElem_of_mem hr; exact (h j hj).1, by rw [List.pairwise_iff_getElem]; exact fun i j hi hj hij => (h j hj).2 i hij⟩
theorem okRs_at2 {L : List Ru} {ne : Int} (h : okRs L ne) {i : Nat} (hi : i < L.length) : fitR L[i] ne ∧ ∀ k (hk : k < i), prR (L[k]'(by omega)) L[i] :=
  ⟨h.2.1 _ (List.getElem_mem hi), fun k hk => (List.pairwise_iff_getElem.1 h.2.2) k i (by omega) hi hk⟩
set_option maxRecDepth 100000 in
set_option maxHeartbeats 8000000 in
theorem refRight13_any (v : Value) (s : St) (w : World) (h : RuR w v s.ru) :
    Calls Tryz.prog 18 #[.agg #[v, .int .i64 s.lo, .int .i64 s.ne, .int .i64 s.ma]] w fun e w' => e = .returned (.bool (decide (okSt s))) ∧ Below w.heap.size w w' := by
  obtain ⟨a, cap, rfl, hm⟩ := h.form
  unfold maxLen at hm
  have HU : Hid (RuR w (.slice a s.ru.length cap) s.ru) := h
  obtain ⟨N, HN⟩ : ∃ n, Hid (s.ru.length = n) := ⟨_, rfl⟩
  rw [HN.out] at HU hm ⊢
  clear h
  obtain ⟨q, Hq⟩ := hid_ex (decide (okSt s))
  rw [← Hq.out]
  have HNo : Hid (¬ (1 ≤ s.lo ∧ s.lo < s.ne ∧ s.ne ≤ 1099511627776 ∧ 0 ≤ s.ma ∧ s.ma ≤ 1099511627776 ∧ N ≤ 64) → q = false) := fun hn => by
    rw [Hq.out]
    exact decide_eq_false fun z => hn ⟨z.1, z.2.1, z.2.2.1, z.2.2.2.1, z.2.2.2.2.1, by rw [← HN.out]; exact z.2.2.2.2.2.1⟩
  have HBad : Hid (∀ i (hi : i < s.ru.length), ¬ (fitR s.ru[i] s.ne ∧ ∀ k (hk : k < i), prR (s.ru[k]'(by omega)) s.ru[i]) → q = false) := fun i hi hn => by
    rw [Hq.out]
    exact decide_eq_false fun z => hn (okRs_at2 z.2.2.2.2.2 hi)
  have HB0 : Hid (Below w.heap.size w (w.alloc (.cells #[.slice a N cap, .int .i64 s.lo, .int .i64 s.ne, .int .i64 s.ma] 38))) := (Below.refl _ _).alloc (Nat.le_refl _) _
  have hX : (w.alloc (.cells #[.slice a N cap, .int .i64 s.lo, .int .i64 s.ne, .int .i64 s.ma] 38)).heap[w.heap.size]? = some (.cells #[.slice a N cap, .int .i64 s.lo, .int .i64 s.ne, .int .i64 s.ma] 38) := heap_alloc_new _ _
  have HX : Hid ((w.alloc (.cells #[.slice a N cap, .int .i64 s.lo, .int .i64 s.ne, .int .i64 s.ma] 38)).heap[w.heap.size]? = some (.cells #[.slice a N cap, .int .i64 s.lo, .int .i64 s.ne, .int .i64 s.ma] 38)) := hX
  obtain ⟨c0, c1, c2, c3⟩ := four13 hX
  clear hX
  by_cases h1 : 1099511627776 < s.ne
  · have h1b := h1
    have hqf := HNo.out (by omega)
    subst hqf
    go_enter Tryz.func18, Tryz.ntmps18
    go_wp2_with fail
    go_ret
    exact ⟨rfl, HB0.out⟩
  · by_cases h2 : s.lo < 1
    · have h2b := h2
      have hqf := HNo.out (by omega)
      subst hqf
      go_enter Tryz.func18, Tryz.ntmps18
      go_wp2_with fail
      go_ret
      exact ⟨rfl, HB0.out⟩
    · by_cases h3 : s.ne ≤ s.lo
      · have h3b := h3
        have hqf := HNo.out (by omega)
        subst hqf
        go_enter Tryz.func18, Tryz.ntmps18
        go_wp2_with fail
        go_ret
        exact ⟨rfl, HB0.out⟩
      · by_cases h4 : s.ma < 0
        · have h4b := h4
          have hqf := HNo.out (by omega)
          subst hqf
          go_enter Tryz.func18, Tryz.ntmps18
          go_wp2_with fail
          go_ret
          exact ⟨rfl, HB0.out⟩
        · by_cases h5 : 1099511627776 < s.ma
          · have h5b := h5
            have hqf := HNo.out (by omega)
            subst hqf
            go_enter Tryz.func18, Tryz.ntmps18
            go_wp2_with fail
            go_ret
            exact ⟨rfl, HB0.out⟩
          · by_cases h6 : 64 < N
            · have h6b : (64 : Int) < (N : Int) := by omega
              have hqf := HNo.out (by omega)
              subst hqf
              go_enter Tryz.func18, Tryz.ntmps18
              go_wp2_with fail
              go_ret
              exact ⟨rfl, HB0.out⟩
            · have h6b : ¬ (64 : Int) < (N : Int) := by omega
              have HYes : Hid ((∀ i (hi : i < s.ru.length), fitR s.ru[i] s.ne ∧ ∀ k (hk : k < i), prR (s.ru[k]'(by omega)) s.ru[i]) → q = true) := fun hy => by
                rw [Hq.out]
                exact decide_eq_true ⟨by omega, by omega, by omega, by omega, by omega, okRs_of2 (by rw [HN.out]; omega) hy⟩
              clear HNo Hq
              go_enter Tryz.func18, Tryz.ntmps18
              go_wp2_with fail
              clear c0 c1 c2 c3
              have HB0w := HB0
              generalize (w.alloc (.cells #[.slice a N cap, .int .i64 s.lo, .int .i64 s.ne, .int .i64 s.ma] 38)) = W at *
              go_loopw [3] (fun iv wr => ∃ i : Nat, iv = .int .i64 (i : Int) ∧ i ≤ N ∧ Hid (∀ j (hj : j < s.ru.length), j < i → fitR s.ru[j] s.ne ∧ ∀ k (hk : k < j), prR (s.ru[k]'(by omega)) s.ru[j]) ∧ Hid (Below W.heap.size W wr)) (fun iv _ => N - (intOf iv).toNat)
              case atStart => exact ⟨0, rfl, by omega, fun j hj h => absurd h (by omega), Below.refl _ _⟩
              case round =>
                obtain ⟨i, rfl, hi, HI, HBr⟩ := hrel
                have hwW : w.heap.size < W.heap.size := (Array.getElem?_eq_some_iff.1 HX.out).1
                have HBw : Hid (Below w.heap.size w wr) := HB0w.out.trans (HBr.out.mono HB0w.out.size)
                obtain ⟨c0, c1, c2, c3⟩ := four13 ((HBr.out.block _ hwW).trans HX.out)
                by_cases hlt : i < N
                · have hlt' : (i : Int) < (N : Int) := by omega
                  have hil : i < s.ru.length := by rw [HN.out]; exact hlt
                  obtain ⟨r, Hr⟩ := hid_ex s.ru[i]
                  obtain ⟨b, off, rfl, hbw, f0, f1, f2⟩ := (HU.out.below HBw.out).at hil Hr.out
                  have hb0 : b < w.heap.size := by
                    obtain ⟨b', off', e', hb', _⟩ := HU.out.at hil Hr.out
                    simp only [Option.some.injEq, Addr.mk.injEq] at e'
                    omega
                  have HC : Hid ((wr.drew.cell? ⟨w.heap.size, 0, none⟩ = some (.slice (some ⟨b, off, none⟩) N cap) ∧ wr.drew.cell? ⟨w.heap.size, 2, none⟩ = some (.int .i64 s.ne)) ∧ (wr.drew.cell? ⟨b, off + i * 3, none⟩ = some (.int .i64 r.f) ∧ wr.drew.cell? ⟨b, off + i * 3 + 1, none⟩ = some (.int .i64 r.l) ∧ wr.drew.cell? ⟨b, off + i * 3 + 2, none⟩ = some (.int .i64 r.c))) := ⟨⟨c0, c2⟩, f0, f1, f2⟩
                  have hwl : w.heap.size < wr.drew.heap.size := Nat.lt_of_lt_of_le hwW HBr.out.size
                  clear f0 f1 f2
                  go_wp2_with fail
                  clear c0 c1 c2 c3
                  refine wp_region_noPanic ?_
                  refine wp_region_held_drew (S := fun w' => (w'.cell? ⟨w.heap.size, 0, none⟩ = some (.slice (some ⟨b, off, none⟩) N cap) ∧ w'.cell? ⟨w.heap.size, 2, none⟩ = some (.int .i64 s.ne)) ∧ (w'.cell? ⟨b, off + i * 3, none⟩ = some (.int .i64 r.f) ∧ w'.cell? ⟨b, off + i * 3 + 1, none⟩ = some (.int .i64 r.l) ∧ w'.cell? ⟨b, off + i * 3 + 2, none⟩ = some (.int .i64 r.c))) (by kernel_rfl) ?_ (fun hHeld => ?_)
                  · exact HC.out
                  refine wpAnyH_take (i := 0) (v := .pointer (some ⟨w.heap.size, 0, none⟩)) rfl (by kernel_rfl) (by kernel_rfl) (by kernel_rfl) (fun _ _ _ h => h) (Or.inl ⟨by rfl, ?_⟩) (by assumption) ?_
                  · (intro w1 hSw; (try dsimp only at hSw); go_simp)
                  simp only [List.getElem_toArray, List.getElem_cons_zero, Act.put, List.setIfInBounds_toArray, List.set_cons_zero, List.set_cons_succ]
                  refine wpAnyH_take (i := 1) (v := .slice (some ⟨b, off, none⟩) N cap) rfl (by kernel_rfl) (by kernel_rfl) (by kernel_rfl) (fun _ _ _ h => h) (Or.inl ⟨by rfl, ?_⟩) (by assumption) ?_
                  · (intro w1 hSw; (try dsimp only at hSw); go_simp)
                  simp only [List.getElem_toArray, List.getElem_cons_succ, List.getElem_cons_zero, Act.put, List.setIfInBounds_toArray, List.set_cons_zero, List.set_cons_succ]
                  refine wpAnyH_take (i := 2) (v := .int .i64 (i : Int)) rfl (by kernel_rfl) (by kernel_rfl) (by kernel_rfl) (fun _ _ _ h => h) (Or.inl ⟨by rfl, ?_⟩) (by assumption) ?_
                  · (intro w1 hSw; (try dsimp only at hSw); go_simp)
                  simp only [List.getElem_toArray, List.getElem_cons_succ, List.getElem_cons_zero, Act.put, List.setIfInBounds_toArray, List.set_cons_zero, List.set_cons_succ]
                  refine wpAnyH_take (i := 3) (v := .pointer (some ⟨b, off + i * 3, none⟩)) rfl (by kernel_rfl) (by kernel_rfl) (by kernel_rfl) (fun _ _ _ h => h) (Or.inl ⟨by rfl, ?_⟩) (by assumption) ?_
                  · (intro w1 hSw; (try dsimp only at hSw); go_simp)
                  simp only [List.getElem_toArray, List.getElem_cons_succ, List.getElem_cons_zero, Act.put, List.setIfInBounds_toArray, List.set_cons_zero, List.set_cons_succ]
                  refine wpAnyH_take (i := 4) (v := .agg #[.int .i64 r.f, .int .i64 r.l, .int .i64 r.c]) rfl (by kernel_rfl) (by kernel_rfl) (by kernel_rfl) (fun _ _ _ h => h) (Or.inl ⟨by rfl, ?_⟩) (by assumption) ?_
                  · (intro w1 hSw; (try dsimp only at hSw); go_simp)
                  simp only [List.getElem_toArray, List.getElem_cons_succ, List.getElem_cons_zero, Act.put, List.setIfInBounds_toArray, List.set_cons_zero, List.set_cons_succ]
                  refine wpAnyH_take (i := 5) (v := .pointer (some ⟨w.heap.size, 2, none⟩)) rfl (by kernel_rfl) (by kernel_rfl) (by kernel_rfl) (fun _ _ _ h => h) (Or.inl ⟨by rfl, ?_⟩) (by assumption) ?_
                  · (intro w1 hSw; (try dsimp only at hSw); go_simp)
                  simp only [List.getElem_toArray, List.getElem_cons_succ, List.getElem_cons_zero, Act.put, List.setIfInBounds_toArray, List.set_cons_zero, List.set_cons_succ]
                  refine wpAnyH_take (i := 6) (v := .int .i64 s.ne) rfl (by kernel_rfl) (by kernel_rfl) (by kernel_rfl) (fun _ _ _ h => h) (Or.inl ⟨by rfl, ?_⟩) (by assumption) ?_
                  · (intro w1 hSw; (try dsimp only at hSw); go_simp)
                  simp only [List.getElem_toArray, List.getElem_cons_succ, List.getElem_cons_zero, Act.put, List.setIfInBounds_toArray, List.set_cons_zero, List.set_cons_succ]
                  refine wpAnyH_ready (rs := [7]) (by kernel_rfl) (by simp) ?_
                  refine AllReadyH.cons (o := _) rfl (fun K hK => ?_) AllReadyH.nil
                  go_simp
                  refine (refFits_any r s.ne _).mono ?_
                  rintro e w2 ⟨rfl, hb2⟩
                  have HB2 : Hid (Below W.heap.size W w2) := HBr.out.drew.trans (hb2.mono HBr.out.drew.size)
                  have HB2w : Hid (Below w.heap.size w w2) := HB0w.out.trans (HB2.out.mono HB0w.out.size)
                  have HC2 : Hid ((w2.cell? ⟨w.heap.size, 0, none⟩ = some (.slice (some ⟨b, off, none⟩) N cap) ∧ w2.cell? ⟨w.heap.size, 2, none⟩ = some (.int .i64 s.ne)) ∧ (w2.cell? ⟨b, off + i * 3, none⟩ = some (.int .i64 r.f) ∧ w2.cell? ⟨b, off + i * 3 + 1, none⟩ = some (.int .i64 r.l) ∧ w2.cell? ⟨b, off + i * 3 + 2, none⟩ = some (.int .i64 r.c))) := ⟨⟨(hb2.cell (p := ⟨w.heap.size, _, none⟩) hwl).trans HC.out.1.1, (hb2.cell (p := ⟨w.heap.size, _, none⟩) hwl).trans HC.out.1.2⟩, (hb2.cell (p := ⟨b, _, none⟩) hbw).trans HC.out.2.1, (hb2.cell (p := ⟨b, _, none⟩) hbw).trans HC.out.2.2.1, (hb2.cell (p := ⟨b, _, none⟩) hbw).trans HC.out.2.2.2⟩
                  clear hb2 HC
                  by_cases hfit : fitR r s.ne
                  · rw [decide_eq_true hfit]
                    have HFit : Hid (fitR r s.ne) := hfit
                    clear hfit
                    go_simp
                    refine hK.out _ _ ?_ (fun hHeld => ?_)
                    · exact HC2.out
                    clear hK K
                    refine wpAnyH_take (i := 8) (v := .bool false) rfl (by kernel_rfl) (by kernel_rfl) (by kernel_rfl) (fun _ _ _ h => h) (Or.inl ⟨by rfl, ?_⟩) (by assumption) ?_
                    · (intro w1 hSw; (try dsimp only at hSw); go_simp)
                    simp only [List.getElem_toArray, List.getElem_cons_succ, List.getElem_cons_zero, Act.put, List.setIfInBounds_toArray, List.set_cons_zero, List.set_cons_succ]
                    refine wpAnyH_done (by kernel_rfl) ?_ _
                    refine NoPanic.normal ?_
                    clear HC2
                    go_wp2_with fail
                    go_loopw [4] (fun kv wq => ∃ k : Nat, kv = .int .i64 (k : Int) ∧ k ≤ i ∧ Hid (∀ j (hj : j < s.ru.length), j < k → prR s.ru[j] r) ∧ Hid (Below W.heap.size W wq)) (fun kv _ => i - (intOf kv).toNat)
                    case atStart => exact ⟨0, rfl, by omega, fun j hj h => absurd h (by omega), HB2.out⟩
                    case round =>
                      obtain ⟨k, rfl, hk, HJ, HBq⟩ := hrel
                      by_cases hki : k < i
                      · have hki' : (k : Int) < (i : Int) := by omega
                        have hkN : k < N := by omega
                        have hkl : k < s.ru.length := by rw [HN.out]; exact hkN
                        obtain ⟨p, Hp⟩ := hid_ex s.ru[k]
                        have HBqw : Hid (Below w.heap.size w wr) := HB0w.out.trans (HBq.out.mono HB0w.out.size)
                        have HFail : Hid (¬ prR p r → q = false) := fun hn => HBad.out i hil fun z => hn (by rw [Hp.out, Hr.out]; exact z.2 k hki)
                        have HNext : Hid (prR p r → Hid (∀ j (hj : j < s.ru.length), j < k + 1 → prR s.ru[j] r)) := fun hy j hj hjk => by
                          rcases Nat.lt_or_ge j k with h9 | h9
                          · exact HJ.out j hj h9
                          · obtain rfl : j = k := by omega
                            rw [← Hp.out]; exact hy
                        obtain ⟨b9, off9, e9, _, f0, f1, f2⟩ := (HU.out.below HBqw.out).at hkl Hp.out
                        simp only [Option.some.injEq, Addr.mk.injEq, and_true] at e9
                        obtain ⟨rfl, rfl⟩ := e9
                        obtain ⟨b9, off9, e9, hbl0, g0, g1, g2⟩ := (HU.out.below HBqw.out).at hil Hr.out
                        simp only [Option.some.injEq, Addr.mk.injEq, and_true] at e9
                        obtain ⟨rfl, rfl⟩ := e9
                        obtain ⟨c0, _, _, _⟩ := four13 ((HBq.out.block _ hwW).trans HX.out)
                        have HC : Hid ((wr.drew.cell? ⟨w.heap.size, 0, none⟩ = some (.slice (some ⟨b, off, none⟩) N cap)) ∧ (wr.drew.cell? ⟨b, off + k * 3, none⟩ = some (.int .i64 p.f) ∧ wr.drew.cell? ⟨b, off + k * 3 + 1, none⟩ = some (.int .i64 p.l) ∧ wr.drew.cell? ⟨b, off + k * 3 + 2, none⟩ = some (.int .i64 p.c)) ∧ (wr.drew.cell? ⟨b, off + i * 3, none⟩ = some (.int .i64 r.f) ∧ wr.drew.cell? ⟨b, off + i * 3 + 1, none⟩ = some (.int .i64 r.l) ∧ wr.drew.cell? ⟨b, off + i * 3 + 2, none⟩ = some (.int .i64 r.c))) := ⟨c0, ⟨f0, f1, f2⟩, g0, g1, g2⟩
                        have hwl : w.heap.size < wr.drew.heap.size := Nat.lt_of_lt_of_le hwW HBq.out.size
                        have hbl : b < wr.drew.heap.size := hbl0
                        clear f0 f1 f2 g0 g1 g2 c0 HJ
                        go_wp2_with fail
                        refine wp_region_noPanic ?_
                        refine wp_region_held_drew (S := fun w' => (w'.cell? ⟨w.heap.size, 0, none⟩ = some (.slice (some ⟨b, off, none⟩) N cap)) ∧ (w'.cell? ⟨b, off + k * 3, none⟩ = some (.int .i64 p.f) ∧ w'.cell? ⟨b, off + k * 3 + 1, none⟩ = some (.int .i64 p.l) ∧ w'.cell? ⟨b, off + k * 3 + 2, none⟩ = some (.int .i64 p.c)) ∧ (w'.cell? ⟨b, off + i * 3, none⟩ = some (.int .i64 r.f) ∧ w'.cell? ⟨b, off + i * 3 + 1, none⟩ = some (.int .i64 r.l) ∧ w'.cell? ⟨b, off + i * 3 + 2, none⟩ = some (.int .i64 r.c))) (by kernel_rfl) ?_ (fun hHeld => ?_)
                        · exact HC.out
                        refine wpAnyH_take (i := 0) (v := .pointer (some ⟨w.heap.size, 0, none⟩)) rfl (by kernel_rfl) (by kernel_rfl) (by kernel_rfl) (fun _ _ _ h => h) (Or.inl ⟨by rfl, ?_⟩) (by assumption) ?_
                        · (intro w1 hSw; (try dsimp only at hSw); go_simp)
                        simp only [List.getElem_toArray, List.getElem_cons_zero, Act.put, List.setIfInBounds_toArray, List.set_cons_zero, List.set_cons_succ]
                        refine wpAnyH_take (i := 1) (v := .slice (some ⟨b, off, none⟩) N cap) rfl (by kernel_rfl) (by kernel_rfl) (by kernel_rfl) (fun _ _ _ h => h) (Or.inl ⟨by rfl, ?_⟩) (by assumption) ?_
                        · (intro w1 hSw; (try dsimp only at hSw); go_simp)
                        simp only [List.getElem_toArray, List.getElem_cons_succ, List.getElem_cons_zero, Act.put, List.setIfInBounds_toArray, List.set_cons_zero, List.set_cons_succ]
                        refine wpAnyH_take (i := 2) (v := .int .i64 (k : Int)) rfl (by kernel_rfl) (by kernel_rfl) (by kernel_rfl) (fun _ _ _ h => h) (Or.inl ⟨by rfl, ?_⟩) (by assumption) ?_
                        · (intro w1 hSw; (try dsimp only at hSw); go_simp)
                        simp only [List.getElem_toArray, List.getElem_cons_succ, List.getElem_cons_zero, Act.put, List.setIfInBounds_toArray, List.set_cons_zero, List.set_cons_succ]
                        refine wpAnyH_take (i := 3) (v := .pointer (some ⟨b, off + k * 3, none⟩)) rfl (by kernel_rfl) (by kernel_rfl) (by kernel_rfl) (fun _ _ _ h => h) (Or.inl ⟨by rfl, ?_⟩) (by assumption) ?_
                        · (intro w1 hSw; (try dsimp only at hSw); go_simp)
                        simp only [List.getElem_toArray, List.getElem_cons_succ, List.getElem_cons_zero, Act.put, List.setIfInBounds_toArray, List.set_cons_zero, List.set_cons_succ]
                        refine wpAnyH_take (i := 4) (v := .agg #[.int .i64 p.f, .int .i64 p.l, .int .i64 p.c]) rfl (by kernel_rfl) (by kernel_rfl) (by kernel_rfl) (fun _ _ _ h => h) (Or.inl ⟨by rfl, ?_⟩) (by assumption) ?_
                        · (intro w1 hSw; (try dsimp only at hSw); go_simp)
                        simp only [List.getElem_toArray, List.getElem_cons_succ, List.getElem_cons_zero, Act.put, List.setIfInBounds_toArray, List.set_cons_zero, List.set_cons_succ]
                        refine wpAnyH_take (i := 5) (v := .pointer (some ⟨w.heap.size, 0, none⟩)) rfl (by kernel_rfl) (by kernel_rfl) (by kernel_rfl) (fun _ _ _ h => h) (Or.inl ⟨by rfl, ?_⟩) (by assumption) ?_
                        · (intro w1 hSw; (try dsimp only at hSw); go_simp)
                        simp only [List.getElem_toArray, List.getElem_cons_succ, List.getElem_cons_zero, Act.put, List.setIfInBounds_toArray, List.set_cons_zero, List.set_cons_succ]
                        refine wpAnyH_take (i := 6) (v := .slice (some ⟨b, off, none⟩) N cap) rfl (by kernel_rfl) (by kernel_rfl) (by kernel_rfl) (fun _ _ _ h => h) (Or.inl ⟨by rfl, ?_⟩) (by assumption) ?_
                        · (intro w1 hSw; (try dsimp only at hSw); go_simp)
                        simp only [List.getElem_toArray, List.getElem_cons_succ, List.getElem_cons_zero, Act.put, List.setIfInBounds_toArray, List.set_cons_zero, List.set_cons_succ]
                        refine wpAnyH_take (i := 7) (v := .int .i64 (i : Int)) rfl (by kernel_rfl) (by kernel_rfl) (by kernel_rfl) (fun _ _ _ h => h) (Or.inl ⟨by rfl, ?_⟩) (by assumption) ?_
                        · (intro w1 hSw; (try dsimp only at hSw); go_simp)
                        simp only [List.getElem_toArray, List.getElem_cons_succ, List.getElem_cons_zero, Act.put, List.setIfInBounds_toArray, List.set_cons_zero, List.set_cons_succ]
                        refine wpAnyH_take (i := 8) (v := .pointer (some ⟨b, off + i * 3, none⟩)) rfl (by kernel_rfl) (by kernel_rfl) (by kernel_rfl) (fun _ _ _ h => h) (Or.inl ⟨by rfl, ?_⟩) (by assumption) ?_
                        · (intro w1 hSw; (try dsimp only at hSw); go_simp)
                        simp only [List.getElem_toArray, List.getElem_cons_succ, List.getElem_cons_zero, Act.put, List.setIfInBounds_toArray, List.set_cons_zero, List.set_cons_succ]
                        refine wpAnyH_take (i := 9) (v := .agg #[.int .i64 r.f, .int .i64 r.l, .int .i64 r.c]) rfl (by kernel_rfl) (by kernel_rfl) (by kernel_rfl) (fun _ _ _ h => h) (Or.inl ⟨by rfl, ?_⟩) (by assumption) ?_
                        · (intro w1 hSw; (try dsimp only at hSw); go_simp)
                        simp only [List.getElem_toArray, List.getElem_cons_succ, List.getElem_cons_zero, Act.put, List.setIfInBounds_toArray, List.set_cons_zero, List.set_cons_succ]
                        refine wpAnyH_ready (rs := [10, 11]) (by kernel_rfl) (by simp) ?_
                        refine AllReadyH.cons (o := _) rfl (fun K hK => ?_) (AllReadyH.cons (o := _) rfl (fun K hK => ?_) AllReadyH.nil)
                        · have HO1 : Hid (wr.drew.heap.size = wr.drew.heap.size) := rfl
                          have HK1 : Hid (Below wr.drew.heap.size wr.drew (wr.drew.alloc (.cells #[.int .i64 0, .int .i64 0, .int .i64 0] 101))) := (Below.refl _ _).alloc (Nat.le_refl _) _
                          have HK2 : Hid (Below wr.drew.heap.size wr.drew ((wr.drew.alloc (.cells #[.int .i64 0, .int .i64 0, .int .i64 0] 101)).alloc (.cells #[.int .i64 0, .int .i64 0, .int .i64 0] 101))) := HK1.out.trans (((Below.refl _ _).alloc (Nat.le_refl _) _).mono (by simp))
                          have HN1 : Hid (((wr.drew.alloc (.cells #[.int .i64 0, .int .i64 0, .int .i64 0] 101)).alloc (.cells #[.int .i64 0, .int .i64 0, .int .i64 0] 101)).heap[wr.drew.heap.size]? = some (.cells #[.int .i64 0, .int .i64 0, .int .i64 0] 101)) := (Below.heap_alloc _ _ _ (by simp)).trans (heap_alloc_new _ _)
                          have HN2 : Hid (((wr.drew.alloc (.cells #[.int .i64 0, .int .i64 0, .int .i64 0] 101)).alloc (.cells #[.int .i64 0, .int .i64 0, .int .i64 0] 101)).heap[wr.drew.heap.size + 1]? = some (.cells #[.int .i64 0, .int .i64 0, .int .i64 0] 101)) := by
                            have e := heap_alloc_new (wr.drew.alloc (.cells #[.int .i64 0, .int .i64 0, .int .i64 0] 101)) (.cells #[.int .i64 0, .int .i64 0, .int .i64 0] 101)
                            rw [World.size_alloc] at e; exact e
                          go_simp
                          refine hK.out _ _ ?_ (fun hHeld => ?_)
                          · exact ⟨(HK1.out.cell (p := ⟨w.heap.size, _, none⟩) hwl).trans HC.out.1, ⟨(HK1.out.cell (p := ⟨b, _, none⟩) hbl).trans HC.out.2.1.1, (HK1.out.cell (p := ⟨b, _, none⟩) hbl).trans HC.out.2.1.2.1, (HK1.out.cell (p := ⟨b, _, none⟩) hbl).trans HC.out.2.1.2.2⟩, (HK1.out.cell (p := ⟨b, _, none⟩) hbl).trans HC.out.2.2.1, (HK1.out.cell (p := ⟨b, _, none⟩) hbl).trans HC.out.2.2.2.1, (HK1.out.cell (p := ⟨b, _, none⟩) hbl).trans HC.out.2.2.2.2⟩
                          clear hK K
                          refine wpAnyH_ready (rs := [11]) (by kernel_rfl) (by simp) ?_
                          refine AllReadyH.cons (o := _) rfl (fun K hK => ?_) AllReadyH.nil
                          go_simp
                          refine hK.out _ _ ?_ (fun hHeld => ?_)
                          · exact ⟨(HK2.out.cell (p := ⟨w.heap.size, _, none⟩) hwl).trans HC.out.1, ⟨(HK2.out.cell (p := ⟨b, _, none⟩) hbl).trans HC.out.2.1.1, (HK2.out.cell (p := ⟨b, _, none⟩) hbl).trans HC.out.2.1.2.1, (HK2.out.cell (p := ⟨b, _, none⟩) hbl).trans HC.out.2.1.2.2⟩, (HK2.out.cell (p := ⟨b, _, none⟩) hbl).trans HC.out.2.2.1, (HK2.out.cell (p := ⟨b, _, none⟩) hbl).trans HC.out.2.2.2.1, (HK2.out.cell (p := ⟨b, _, none⟩) hbl).trans HC.out.2.2.2.2⟩
                          clear hK K
                          refine wpAnyH_ready (rs := [12]) (by kernel_rfl) (by simp) ?_
                          refine AllReadyH.cons (o := _) rfl (fun K hK => ?_) AllReadyH.nil
                          refine wp_storeN _ _ _ rfl (wr.drew.heap.size) 0 (r3L p) rfl rfl _ _ HN1.out (by rw [r3L_len]; simp) (by kernel_rfl) (by kernel_rfl) (fun W1 hW1 => ?_)
                          have HP1 : Hid (W1.heap[wr.drew.heap.size]? = some (.cells (r3L p).toArray 101)) := stW_all hW1 (by simp [r3L_len])
                          have HQ1 : Hid (W1.heap[wr.drew.heap.size + 1]? = some (.cells #[.int .i64 0, .int .i64 0, .int .i64 0] 101)) := (hW1.o _ (by omega)).trans HN2.out
                          have HK3 : Hid (Below wr.drew.heap.size wr.drew W1) := HK2.out.trans (hW1.b _ (by omega))
                          clear hW1
                          refine hK.out _ _ ?_ (fun hHeld => ?_)
                          · exact ⟨(HK3.out.cell (p := ⟨w.heap.size, _, none⟩) hwl).trans HC.out.1, ⟨(HK3.out.cell (p := ⟨b, _, none⟩) hbl).trans HC.out.2.1.1, (HK3.out.cell (p := ⟨b, _, none⟩) hbl).trans HC.out.2.1.2.1, (HK3.out.cell (p := ⟨b, _, none⟩) hbl).trans HC.out.2.1.2.2⟩, (HK3.out.cell (p := ⟨b, _, none⟩) hbl).trans HC.out.2.2.1, (HK3.out.cell (p := ⟨b, _, none⟩) hbl).trans HC.out.2.2.2.1, (HK3.out.cell (p := ⟨b, _, none⟩) hbl).trans HC.out.2.2.2.2⟩
                          clear hK K
                          refine wpAnyH_ready (rs := [13]) (by kernel_rfl) (by simp) ?_
                          refine AllReadyH.cons (o := _) rfl (fun K hK => ?_) AllReadyH.nil
                          refine wp_storeN _ _ _ rfl (wr.drew.heap.size + 1) 0 (r3L r) rfl rfl _ _ HQ1.out (by rw [r3L_len]; simp) (by kernel_rfl) (by kernel_rfl) (fun W2 hW2 => ?_)
                          have HR2 : Hid (W2.heap[wr.drew.heap.size + 1]? = some (.cells (r3L r).toArray 101)) := stW_all hW2 (by simp [r3L_len])
                          have HP2 : Hid (W2.heap[wr.drew.heap.size]? = some (.cells (r3L p).toArray 101)) := (hW2.o _ (by omega)).trans HP1.out
                          have HK4 : Hid (Below wr.drew.heap.size wr.drew W2) := HK3.out.trans (hW2.b _ (by omega))
                          clear hW2
                          refine hK.out _ _ ?_ (fun hHeld => ?_)
                          · exact ⟨(HK4.out.cell (p := ⟨w.heap.size, _, none⟩) hwl).trans HC.out.1, ⟨(HK4.out.cell (p := ⟨b, _, none⟩) hbl).trans HC.out.2.1.1, (HK4.out.cell (p := ⟨b, _, none⟩) hbl).trans HC.out.2.1.2.1, (HK4.out.cell (p := ⟨b, _, none⟩) hbl).trans HC.out.2.1.2.2⟩, (HK4.out.cell (p := ⟨b, _, none⟩) hbl).trans HC.out.2.2.1, (HK4.out.cell (p := ⟨b, _, none⟩) hbl).trans HC.out.2.2.2.1, (HK4.out.cell (p := ⟨b, _, none⟩) hbl).trans HC.out.2.2.2.2⟩
                          clear hK K
                          refine wpAnyH_done (by kernel_rfl) ?_ _
                          refine NoPanic.normal ?_
                          clear HC HK1 HK2 HK3 HN1 HN2 HP1 HQ1
                          obtain ⟨x0, x1, x2⟩ := three (show W2.heap[wr.heap.size]? = some (.cells (r3L p).toArray 101) from HP2.out)
                          obtain ⟨y0, y1, y2⟩ := three (show W2.heap[wr.heap.size + 1]? = some (.cells (r3L r).toArray 101) from HR2.out)
                          have HB4 : Hid (Below W.heap.size W W2) := HBq.out.drew.trans (HK4.out.mono HBq.out.drew.size)
                          have HL4 : Hid (wr.drew.heap.size < W2.heap.size ∧ wr.drew.heap.size + 1 < W2.heap.size) := ⟨(Array.getElem?_eq_some_iff.1 HP2.out).1, (Array.getElem?_eq_some_iff.1 HR2.out).1⟩
                          go_wp2_with fail
                          refine (refAhead_any p r W2).mono ?_
                          rintro e W3 ⟨rfl, hb3⟩
                          have HB5 : Hid (Below W.heap.size W W3) := HB4.out.trans (hb3.mono HB4.out.size)
                          have HB6 : Hid (Below w.heap.size w W3) := HB0w.out.trans (HB5.out.mono HB0w.out.size)
                          clear x0 x1 x2 y0 y1 y2
                          obtain ⟨x0, x1, x2⟩ := three (show W3.heap[wr.heap.size]? = some (.cells (r3L p).toArray 101) from (hb3.block _ HL4.out.1).trans HP2.out)
                          obtain ⟨y0, y1, y2⟩ := three (show W3.heap[wr.heap.size + 1]? = some (.cells (r3L r).toArray 101) from (hb3.block _ HL4.out.2).trans HR2.out)
                          clear hb3
                          by_cases ha : ahd p r
                          · rw [decide_eq_true ha]
                            have HAh : Hid (ahd p r) := ha
                            clear ha
                            by_cases hf : p.f = r.f
                            · have hf' : (p.f == r.f) = true := by simpa using hf
                              have hqf := HFail.out (fun h => h.2.1 hf)
                              subst hqf
                              clear hf
                              go_wp2_with fail
                              go_ret
                              exact ⟨rfl, HB6.out⟩
                            · have hf' : (p.f == r.f) = false := by simpa using hf
                              by_cases hl : p.l = r.l
                              · have hl' : (p.l == r.l) = true := by simpa using hl
                                by_cases h0 : 0 < p.l
                                · have hqf := HFail.out (fun h => h.2.2 ⟨hl, h0⟩)
                                  subst hqf
                                  clear hf hl
                                  go_wp2_with fail
                                  go_ret
                                  exact ⟨rfl, HB6.out⟩
                                · have HI2 := HNext.out ⟨HAh.out, hf, fun z => h0 z.2⟩
                                  clear hf hl
                                  go_wp2_with fail
                                  go_roundw
                                  case rel => exact ⟨k + 1, by go_num, by omega, HI2, HB5⟩
                                  case measure => simp [intOf]; omega
                              · have hl' : (p.l == r.l) = false := by simpa using hl
                                have HI2 := HNext.out ⟨HAh.out, hf, fun z => hl z.1⟩
                                clear hf hl
                                go_wp2_with fail
                                go_roundw
                                case rel => exact ⟨k + 1, by go_num, by omega, HI2, HB5⟩
                                case measure => simp [intOf]; omega
                          · rw [decide_eq_false ha]
                            have hqf := HFail.out (fun h => ha h.1)
                            subst hqf
                            clear ha
                            go_wp2_with fail
                            go_ret
                            exact ⟨rfl, HB6.out⟩
                        · have HO1 : Hid (wr.drew.heap.size = wr.drew.heap.size) := rfl
                          have HK1 : Hid (Below wr.drew.heap.size wr.drew (wr.drew.alloc (.cells #[.int .i64 0, .int .i64 0, .int .i64 0] 101))) := (Below.refl _ _).alloc (Nat.le_refl _) _
                          have HK2 : Hid (Below wr.drew.heap.size wr.drew ((wr.drew.alloc (.cells #[.int .i64 0, .int .i64 0, .int .i64 0] 101)).alloc (.cells #[.int .i64 0, .int .i64 0, .int .i64 0] 101))) := HK1.out.trans (((Below.refl _ _).alloc (Nat.le_refl _) _).mono (by simp))
                          have HN1 : Hid (((wr.drew.alloc (.cells #[.int .i64 0, .int .i64 0, .int .i64 0] 101)).alloc (.cells #[.int .i64 0, .int .i64 0, .int .i64 0] 101)).heap[wr.drew.heap.size]? = some (.cells #[.int .i64 0, .int .i64 0, .int .i64 0] 101)) := (Below.heap_alloc _ _ _ (by simp)).trans (heap_alloc_new _ _)
                          have HN2 : Hid (((wr.drew.alloc (.cells #[.int .i64 0, .int .i64 0, .int .i64 0] 101)).alloc (.cells #[.int .i64 0, .int .i64 0, .int .i64 0] 101)).heap[wr.drew.heap.size + 1]? = some (.cells #[.int .i64 0, .int .i64 0, .int .i64 0] 101)) := by
                            have e := heap_alloc_new (wr.drew.alloc (.cells #[.int .i64 0, .int .i64 0, .int .i64 0] 101)) (.cells #[.int .i64 0, .int .i64 0, .int .i64 0] 101)
                            rw [World.size_alloc] at e; exact e
                          go_simp
                          refine hK.out _ _ ?_ (fun hHeld => ?_)
                          · exact ⟨(HK1.out.cell (p := ⟨w.heap.size, _, none⟩) hwl).trans HC.out.1, ⟨(HK1.out.cell (p := ⟨b, _, none⟩) hbl).trans HC.out.2.1.1, (HK1.out.cell (p := ⟨b, _, none⟩) hbl).trans HC.out.2.1.2.1, (HK1.out.cell (p := ⟨b, _, none⟩) hbl).trans HC.out.2.1.2.2⟩, (HK1.out.cell (p := ⟨b, _, none⟩) hbl).trans HC.out.2.2.1, (HK1.out.cell (p := ⟨b, _, none⟩) hbl).trans HC.out.2.2.2.1, (HK1.out.cell (p := ⟨b, _, none⟩) hbl).trans HC.out.2.2.2.2⟩
                          clear hK K
                          refine wpAnyH_ready (rs := [10]) (by kernel_rfl) (by simp) ?_
                          refine AllReadyH.cons (o := _) rfl (fun K hK => ?_) AllReadyH.nil
                          go_simp
                          refine hK.out _ _ ?_ (fun hHeld => ?_)
                          · exact ⟨(HK2.out.cell (p := ⟨w.heap.size, _, none⟩) hwl).trans HC.out.1, ⟨(HK2.out.cell (p := ⟨b, _, none⟩) hbl).trans HC.out.2.1.1, (HK2.out.cell (p := ⟨b, _, none⟩) hbl).trans HC.out.2.1.2.1, (HK2.out.cell (p := ⟨b, _, none⟩) hbl).trans HC.out.2.1.2.2⟩, (HK2.out.cell (p := ⟨b, _, none⟩) hbl).trans HC.out.2.2.1, (HK2.out.cell (p := ⟨b, _, none⟩) hbl).trans HC.out.2.2.2.1, (HK2.out.cell (p := ⟨b, _, none⟩) hbl).trans HC.out.2.2.2.2⟩
                          clear hK K
                          refine wpAnyH_ready (rs := [12]) (by kernel_rfl) (by simp) ?_
                          refine AllReadyH.cons (o := _) rfl (fun K hK => ?_) AllReadyH.nil
                          refine wp_storeN _ _ _ rfl (wr.drew.heap.size + 1) 0 (r3L p) rfl rfl _ _ HN2.out (by rw [r3L_len]; simp) (by kernel_rfl) (by kernel_rfl) (fun W1 hW1 => ?_)
                          have HP1 : Hid (W1.heap[wr.drew.heap.size + 1]? = some (.cells (r3L p).toArray 101)) := stW_all hW1 (by simp [r3L_len])
                          have HQ1 : Hid (W1.heap[wr.drew.heap.size]? = some (.cells #[.int .i64 0, .int .i64 0, .int .i64 0] 101)) := (hW1.o _ (by omega)).trans HN1.out
                          have HK3 : Hid (Below wr.drew.heap.size wr.drew W1) := HK2.out.trans (hW1.b _ (by omega))
                          clear hW1
                          refine hK.out _ _ ?_ (fun hHeld => ?_)
                          · exact ⟨(HK3.out.cell (p := ⟨w.heap.size, _, none⟩) hwl).trans HC.out.1, ⟨(HK3.out.cell (p := ⟨b, _, none⟩) hbl).trans HC.out.2.1.1, (HK3.out.cell (p := ⟨b, _, none⟩) hbl).trans HC.out.2.1.2.1, (HK3.out.cell (p := ⟨b, _, none⟩) hbl).trans HC.out.2.1.2.2⟩, (HK3.out.cell (p := ⟨b, _, none⟩) hbl).trans HC.out.2.2.1, (HK3.out.cell (p := ⟨b, _, none⟩) hbl).trans HC.out.2.2.2.1, (HK3.out.cell (p := ⟨b, _, none⟩) hbl).trans HC.out.2.2.2.2⟩
                          clear hK K
                          refine wpAnyH_ready (rs := [13]) (by kernel_rfl) (by simp) ?_
                          refine AllReadyH.cons (o := _) rfl (fun K hK => ?_) AllReadyH.nil
                          refine wp_storeN _ _ _ rfl (wr.drew.heap.size) 0 (r3L r) rfl rfl _ _ HQ1.out (by rw [r3L_len]; simp) (by kernel_rfl) (by kernel_rfl) (fun W2 hW2 => ?_)
                          have HR2 : Hid (W2.heap[wr.drew.heap.size]? = some (.cells (r3L r).toArray 101)) := stW_all hW2 (by simp [r3L_len])
                          have HP2 : Hid (W2.heap[wr.drew.heap.size + 1]? = some (.cells (r3L p).toArray 101)) := (hW2.o _ (by omega)).trans HP1.out
                          have HK4 : Hid (Below wr.drew.heap.size wr.drew W2) := HK3.out.trans (hW2.b _ (by omega))
                          clear hW2
                          refine hK.out _ _ ?_ (fun hHeld => ?_)
                          · exact ⟨(HK4.out.cell (p := ⟨w.heap.size, _, none⟩) hwl).trans HC.out.1, ⟨(HK4.out.cell (p := ⟨b, _, none⟩) hbl).trans HC.out.2.1.1, (HK4.out.cell (p := ⟨b, _, none⟩) hbl).trans HC.out.2.1.2.1, (HK4.out.cell (p := ⟨b, _, none⟩) hbl).trans HC.out.2.1.2.2⟩, (HK4.out.cell (p := ⟨b, _, none⟩) hbl).trans HC.out.2.2.1, (HK4.out.cell (p := ⟨b, _, none⟩) hbl).trans HC.out.2.2.2.1, (HK4.out.cell (p := ⟨b, _, none⟩) hbl).trans HC.out.2.2.2.2⟩
                          clear hK K
                          refine wpAnyH_done (by kernel_rfl) ?_ _
                          refine NoPanic.normal ?_
                          clear HC HK1 HK2 HK3 HN1 HN2 HP1 HQ1
                          obtain ⟨x0, x1, x2⟩ := three (show W2.heap[wr.heap.size + 1]? = some (.cells (r3L p).toArray 101) from HP2.out)
                          obtain ⟨y0, y1, y2⟩ := three (show W2.heap[wr.heap.size]? = some (.cells (r3L r).toArray 101) from HR2.out)
                          have HB4 : Hid (Below W.heap.size W W2) := HBq.out.drew.trans (HK4.out.mono HBq.out.drew.size)
                          have HL4 : Hid (wr.drew.heap.size + 1 < W2.heap.size ∧ wr.drew.heap.size < W2.heap.size) := ⟨(Array.getElem?_eq_some_iff.1 HP2.out).1, (Array.getElem?_eq_some_iff.1 HR2.out).1⟩
                          go_wp2_with fail
                          refine (refAhead_any p r W2).mono ?_
                          rintro e W3 ⟨rfl, hb3⟩
                          have HB5 : Hid (Below W.heap.size W W3) := HB4.out.trans (hb3.mono HB4.out.size)
                          have HB6 : Hid (Below w.heap.size w W3) := HB0w.out.trans (HB5.out.mono HB0w.out.size)
                          clear x0 x1 x2 y0 y1 y2
                          obtain ⟨x0, x1, x2⟩ := three (show W3.heap[wr.heap.size + 1]? = some (.cells (r3L p).toArray 101) from (hb3.block _ HL4.out.1).trans HP2.out)
                          obtain ⟨y0, y1, y2⟩ := three (show W3.heap[wr.heap.size]? = some (.cells (r3L r).toArray 101) from (hb3.block _ HL4.out.2).trans HR2.out)
                          clear hb3
                          by_cases ha : ahd p r
                          · rw [decide_eq_true ha]
                            have HAh : Hid (ahd p r) := ha
                            clear ha
                            by_cases hf : p.f = r.f
                            · have hf' : (p.f == r.f) = true := by simpa using hf
                              have hqf := HFail.out (fun h => h.2.1 hf)
                              subst hqf
                              clear hf
                              go_wp2_with fail
                              go_ret
                              exact ⟨rfl, HB6.out⟩
                            · have hf' : (p.f == r.f) = false := by simpa using hf
                              by_cases hl : p.l = r.l
                              · have hl' : (p.l == r.l) = true := by simpa using hl
                                by_cases h0 : 0 < p.l
                                · have hqf := HFail.out (fun h => h.2.2 ⟨hl, h0⟩)
                                  subst hqf
                                  clear hf hl
                                  go_wp2_with fail
                                  go_ret
                                  exact ⟨rfl, HB6.out⟩
                                · have HI2 := HNext.out ⟨HAh.out, hf, fun z => h0 z.2⟩
                                  clear hf hl
                                  go_wp2_with fail
                                  go_roundw
                                  case rel => exact ⟨k + 1, by go_num, by omega, HI2, HB5⟩
                                  case measure => simp [intOf]; omega
                              · have hl' : (p.l == r.l) = false := by simpa using hl
                                have HI2 := HNext.out ⟨HAh.out, hf, fun z => hl z.1⟩
                                clear hf hl
                                go_wp2_with fail
                                go_roundw
                                case rel => exact ⟨k + 1, by go_num, by omega, HI2, HB5⟩
                                case measure => simp [intOf]; omega
                          · rw [decide_eq_false ha]
                            have hqf := HFail.out (fun h => ha h.1)
                            subst hqf
                            clear ha
                            go_wp2_with fail
                            go_ret
                            exact ⟨rfl, HB6.out⟩
                      · have hki' : ¬ (k : Int) < (i : Int) := by omega
                        have HI2 : Hid (∀ j (hj : j < s.ru.length), j < i + 1 → fitR s.ru[j] s.ne ∧ ∀ k (hk : k < j), prR (s.ru[k]'(by omega)) s.ru[j]) := fun j hj hji => by
                          rcases Nat.lt_or_ge j i with h9 | h9
                          · exact HI.out j hj h9
                          · obtain rfl : j = i := by omega
                            rw [← Hr.out]
                            exact ⟨HFit.out, fun m hm => HJ.out m (by omega) (by omega)⟩
                        go_wp2_with fail
                        go_roundw
                        case rel => exact ⟨i + 1, by go_num, by omega, HI2, HBq⟩
                        case measure => simp [intOf]; omega
                  · rw [decide_eq_false hfit]
                    have hqf := HBad.out i hil fun z => hfit (by rw [Hr.out]; exact z.1)
                    subst hqf
                    clear hfit
                    go_simp
                    refine hK.out _ _ ?_ (fun hHeld => ?_)
                    · exact HC2.out
                    clear hK K
                    refine wpAnyH_take (i := 8) (v := .bool true) rfl (by kernel_rfl) (by kernel_rfl) (by kernel_rfl) (fun _ _ _ h => h) (Or.inl ⟨by rfl, ?_⟩) (by assumption) ?_
                    · (intro w1 hSw; (try dsimp only at hSw); go_simp)
                    simp only [List.getElem_toArray, List.getElem_cons_succ, List.getElem_cons_zero, Act.put, List.setIfInBounds_toArray, List.set_cons_zero, List.set_cons_succ]
                    refine wpAnyH_done (by kernel_rfl) ?_ _
                    refine NoPanic.normal ?_
                    clear HC2
                    go_wp2_with fail
                    go_ret
                    exact ⟨rfl, HB2w.out⟩
                · have hlt' : ¬ (i : Int) < (N : Int) := by omega
                  have hqt := HYes.out fun j hj => HI.out j hj (by have := HN.out; omega)
                  subst hqt
                  go_wp2_with fail
                  go_ret
                  exact ⟨rfl, HBw.out⟩
end Go.Proofs.YtilbffgpniomcaaGreatDoor
