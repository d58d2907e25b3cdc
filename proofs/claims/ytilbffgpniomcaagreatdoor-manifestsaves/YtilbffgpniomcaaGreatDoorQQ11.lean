/- MFl, joined. -/
import Derived.Test.YtilbffgpniomcaaGreatDoorQQ10
/- manifest: areRight, Right. -/
namespace Go.Proofs.YtilbffgpniomcaaGreatDoor
open Go.RowKit

theorem elemU : Tryz.prog.elem 31 = 72 := by kernel_rfl
theorem undU : Tryz.prog.underlying 31 = some (.slice (Tryz.prog.elem 31)) := by rw [elemU]; exact Tryz.underlying31
theorem sizeU (w : World) : (sizeOf 72).run Tryz.prog w = .ok 3 w := by
  simp [sizeOf]
  rfl
/-- A slice of runs, with its capacity. -/
structure UR (w : World) (v : Value) (L : List Ru) : Prop where
  r : RuR w v L
  c : ∀ a n cap, v = .slice a n cap → n ≤ cap ∧ cap ≤ maxLen
  z : ∀ n cap, v = .slice none n cap → cap = 0
theorem UR.below {w w' : World} {v : Value} {L : List Ru} (h : UR w v L) (hb : Below w.heap.size w w') : UR w' v L := ⟨h.r.below hb, h.c, h.z⟩
theorem usl_upto {w : World} {b off N cap : Nat} {L : List Ru} (h : UR w (.slice (some ⟨b, off, none⟩) N cap) L) (hN : L.length = N) {d : Nat} (hd : d ≤ N) :
    (∀ w', (Instr.slice 31 (.slice (some ⟨b, off, none⟩) N cap) none (some (.int .i64 (d : Int))) none).run Tryz.prog w' = .ok (.slice (some ⟨b, off, none⟩) d cap) w') ∧ RuR w (.slice (some ⟨b, off, none⟩) d cap) (L.take d) := by
  obtain ⟨h1, h2⟩ := h.c _ _ _ rfl
  unfold maxLen at h2
  refine ⟨fun w' => ?_, ?_⟩
  · rw [run_slice_h _ _ _ _ _ undU _ _ (by omega) (by omega), elemU, sizeU]
    show Result.ok (Go.sliced (some ⟨b, off, none⟩) 0 d cap 3) w' = _
    unfold Go.sliced
    congr 2
    split <;> simp [Addr.add]
  · obtain ⟨a, c, e, h3, h4⟩ := h.r
    have hl : (L.take d).length = d := by rw [List.length_take]; omega
    refine ⟨_, cap, by rw [hl], by rw [hl]; unfold maxLen; omega, fun j hj => ?_⟩
    rw [hl] at hj
    obtain ⟨b', off', e2, q⟩ := h4 j (by omega)
    simp only [Value.slice.injEq] at e
    rw [← e.1] at e2
    refine ⟨b', off', e2, ?_⟩
    simpa using q
theorem drewN_heap (W : World) : ∀ q, (W.drewN q).heap = W.heap ∧ (W.drewN q).os = W.os ∧ (W.drewN q).tape = W.tape ∧ (W.drewN q).output = W.output := fun _ => ⟨rfl, rfl, rfl, rfl⟩
theorem Grew.below {W w' : World} (h : Grew W w') : Below W.heap.size W w' := by
  obtain ⟨q, os, rfl⟩ := h
  obtain ⟨h1, h2, h3, h4⟩ := drewN_heap W q
  refine ⟨h2, h3, h4, ?_, fun k hk => ?_⟩
  · simp [Go.Sort.grow]
  · simp only [Go.Sort.grow, h1]
    rw [Array.getElem?_append_left hk]
theorem ord13_lt (a b : Ru) : ord13 a b < 0 ↔ ahd a b := by
  unfold ord13 or13 cmp13 ahd
  repeat' split
  all_goals omega
instance (l : List Ru) (ne : Int) : Decidable (okRs l ne) := by unfold okRs; infer_instance
instance (s : St) : Decidable (okSt s) := by unfold okSt; infer_instance
theorem okRs_of {L : List Ru} {ne : Int} (h64 : L.length ≤ 64) (h : ∀ j (hj : j < L.length), fitR L[j] ne ∧ nbR L j L[j]) : okRs L ne :=
  ⟨h64, fun r hr => by obtain ⟨j, hj, rfl⟩ := List.getElem_of_mem hr; exact (h j hj).1, nb_pairs fun j hj => (h j hj).2⟩
theorem okRs_at {L : List Ru} {ne : Int} (h : okRs L ne) {j : Nat} (hj : j < L.length) : fitR L[j] ne ∧ nbR L j L[j] := ⟨h.2.1 _ (List.getElem_mem hj), pairs_nb h.2.2 j hj⟩
set_option maxRecDepth 100000 in
set_option maxHeartbeats 4000000 in
theorem areRight_any (v : Value) (L : List Ru) (ne : Int) (w : World) (h : UR w v L) :
    Calls Tryz.prog 58 #[v, .int .i64 ne] w fun e w' => e = .returned (.bool (decide (okRs L ne))) ∧ Below w.heap.size w w' := by
  obtain ⟨a, cap, rfl, hm⟩ := h.r.form
  unfold maxLen at hm
  obtain ⟨N, HN⟩ : ∃ n, Hid (L.length = n) := ⟨_, rfl⟩
  rw [HN.out] at h hm ⊢
  have HU : Hid (UR w (.slice a N cap) L) := h
  obtain ⟨q, Hq⟩ := hid_ex (decide (okRs L ne))
  rw [← Hq.out]
  clear h
  by_cases h64 : N ≤ 64
  · have h64' : ¬ (64 : Int) < (N : Int) := by omega
    go_enter Tryz.func58, Tryz.ntmps58
    go_wp2_with fail
    go_loopw [13] (fun i wr => ∃ k : Nat, i = .int .i64 (k : Int) ∧ k ≤ N ∧ Hid (∀ j (hj : j < L.length), j < k → fitR L[j] ne ∧ nbR L j L[j]) ∧ Hid (Below w.heap.size w wr)) (fun i _ => N - (intOf i).toNat)
    case atStart => exact ⟨0, rfl, by omega, fun j hj h => absurd h (by omega), Below.refl _ _⟩
    case round =>
      obtain ⟨k, rfl, hk, HP, HB⟩ := hrel
      by_cases hlt : k < N
      · have hlt' : (k : Int) < (N : Int) := by omega
        have hkL : k < L.length := by rw [HN.out]; exact hlt
        have HKL : Hid (k < L.length) := hkL
        obtain ⟨r, Hr⟩ := hid_ex L[k]
        obtain ⟨b, off, rfl, hbw, c0, c1, c2⟩ := (HU.out.below HB.out).r.at hkL Hr.out
        obtain ⟨hsl, hsr⟩ := usl_upto HU.out HN.out (d := k) (by omega)
        have HSR : Hid (RuR w (.slice (some ⟨b, off, none⟩) k cap) (L.take k)) := hsr
        have HNo : Hid (¬ (fitR r ne ∧ nbR L k r) → q = false) := fun hn => by
          rw [Hq.out]
          refine decide_eq_false fun ho => hn ?_
          rw [Hr.out]
          exact okRs_at ho HKL.out
        have HYes : Hid (fitR r ne ∧ nbR L k r → ∀ j (hj : j < L.length), j < k + 1 → fitR L[j] ne ∧ nbR L j L[j]) := fun hy j hj hjk => by
          rcases Nat.lt_or_ge j k with h9 | h9
          · exact HP.out j hj h9
          · obtain rfl : j = k := by omega
            rw [Hr.out] at hy
            exact hy
        clear hsr HP hkL
        go_wp2_with (refine stop_store 72 _ _ rfl ?_)
        refine Stop.of ?_
        refine wpList_storeN rfl _ _ _ rfl wr.heap.size 0 (r3L r) rfl rfl _ _ (heap_alloc_new _ _) (by rw [r3L_len]; simp) (by kernel_rfl) (by kernel_rfl) ?_
        intro W hW
        obtain ⟨hbW, hxW, hlW⟩ := stW_nw hW (by simp [r3L_len])
        have HBW : Hid (Below w.heap.size w W) := HB.out.trans (hbW.mono HB.out.size)
        have HX : Hid (W.heap[wr.heap.size]? = some (.cells (r3L r).toArray 72)) := hxW
        obtain ⟨d0, d1, d2⟩ := three hxW
        clear hW hbW hxW c0 c1 c2
        by_cases hl1 : r.l < 0
        · have hqf := HNo.out (fun h => by have := h.1.1; omega)
          subst hqf
          go_wp2_with fail
          go_ret
          exact ⟨rfl, HBW.out⟩
        · by_cases hl2 : 4 ≤ r.l
          · have hqf := HNo.out (fun h => by have := h.1.2.1; omega)
            subst hqf
            go_wp2_with fail
            go_ret
            exact ⟨rfl, HBW.out⟩
          · by_cases hf1 : r.f < 1
            · have hqf := HNo.out (fun h => by have := h.1.2.2.1; omega)
              subst hqf
              go_wp2_with fail
              go_ret
              exact ⟨rfl, HBW.out⟩
            · by_cases hf2 : ne ≤ r.f
              · have hqf := HNo.out (fun h => by have := h.1.2.2.2.1; omega)
                subst hqf
                go_wp2_with fail
                go_ret
                exact ⟨rfl, HBW.out⟩
              · by_cases hc1 : r.c < 1
                · have hqf := HNo.out (fun h => by have := h.1.2.2.2.2.1; omega)
                  subst hqf
                  go_wp2_with fail
                  go_ret
                  exact ⟨rfl, HBW.out⟩
                · by_cases hc2 : 4096 < r.c
                  · have hqf := HNo.out (fun h => by have := h.1.2.2.2.2.2; omega)
                    subst hqf
                    go_wp2_with fail
                    go_ret
                    exact ⟨rfl, HBW.out⟩
                  · have HF : Hid (fitR r ne) := ⟨by omega, by omega, by omega, by omega, by omega, by omega⟩
                    go_wp2_with fail
                    refine (place13_any _ (L.take k) r.f W (HSR.out.below HBW.out)).mono ?_
                    rintro e W2 ⟨hb2, hp⟩
                    have HB2 : Hid (Below w.heap.size w W2) := HBW.out.trans (hb2.mono HBW.out.size)
                    have HX2 : Hid (W2.heap[wr.heap.size]? = some (.cells (r3L r).toArray 72)) := (hb2.block _ hlW).trans HX.out
                    clear d0 d1 d2
                    obtain ⟨d0, d1, d2⟩ := three HX2.out
                    have hlt2 : wr.heap.size < W2.heap.size := (Array.getElem?_eq_some_iff.1 HX2.out).1
                    clear hb2
                    rcases hp with ⟨j, hj, rfl, hjf, _⟩ | ⟨rfl, hnf⟩
                    · have hqf := HNo.out (fun h => h.2.1 _ (List.getElem_mem hj) hjf)
                      subst hqf
                      clear hjf
                      go_wp2_with fail
                      go_ret
                      exact ⟨rfl, HB2.out⟩
                    · have HNf : Hid (∀ a ∈ L.take k, a.f ≠ r.f) := hnf
                      clear hnf
                      rcases Nat.eq_zero_or_pos k with hk0 | hk0
                      · subst hk0
                        have HY : Hid (∀ j (hj : j < L.length), j < 0 + 1 → fitR L[j] ne ∧ nbR L j L[j]) := HYes.out ⟨HF.out, HNf.out, fun a h => absurd h (by omega)⟩
                        clear HNo HYes
                        go_wp2_with fail
                        refine wp_region_noPanic ?_
                        refine wp_region_held_drew (S := fun _ => True) (by kernel_rfl) ?_ (fun hHeld => ?_)
                        · trivial
                        refine wpAnyH_take (i := 0) (v := .int .i64 0) rfl (by kernel_rfl) (by kernel_rfl) (by kernel_rfl) (fun _ _ _ h => h) (Or.inl ⟨by rfl, ?_⟩) (by assumption) ?_
                        · (intro w1 hSw; (try dsimp only at hSw); go_simp)
                        simp only [List.getElem_toArray, List.getElem_cons_zero, Act.put, List.setIfInBounds_toArray, List.set_cons_zero, List.set_cons_succ]
                        refine wpAnyH_take (i := 1) (v := .bool false) rfl (by kernel_rfl) (by kernel_rfl) (by kernel_rfl) (fun _ _ _ h => h) (Or.inl ⟨by rfl, ?_⟩) (by assumption) ?_
                        · (intro w1 hSw; (try dsimp only at hSw); go_simp)
                        simp only [List.getElem_toArray, List.getElem_cons_succ, List.getElem_cons_zero, Act.put, List.setIfInBounds_toArray, List.set_cons_zero, List.set_cons_succ]
                        refine wpAnyH_take (i := 2) (v := .bool false) rfl (by kernel_rfl) (by kernel_rfl) (by kernel_rfl) (fun _ _ _ h => h) (Or.inl ⟨by rfl, ?_⟩) (by assumption) ?_
                        · (intro w1 hSw; (try dsimp only at hSw); go_simp)
                        simp only [List.getElem_toArray, List.getElem_cons_succ, List.getElem_cons_zero, Act.put, List.setIfInBounds_toArray, List.set_cons_zero, List.set_cons_succ]
                        refine wpAnyH_take (i := 3) (v := undef) rfl (by kernel_rfl) (by kernel_rfl) (by kernel_rfl) (fun _ _ _ h => h) (Or.inr ⟨by rfl, rfl⟩) (by assumption) ?_
                        simp only [List.getElem_toArray, List.getElem_cons_succ, List.getElem_cons_zero, Act.put, List.setIfInBounds_toArray, List.set_cons_zero, List.set_cons_succ]
                        refine wpAnyH_take (i := 4) (v := undef) rfl (by kernel_rfl) (by kernel_rfl) (by kernel_rfl) (fun _ _ _ h => h) (Or.inr ⟨by rfl, rfl⟩) (by assumption) ?_
                        simp only [List.getElem_toArray, List.getElem_cons_succ, List.getElem_cons_zero, Act.put, List.setIfInBounds_toArray, List.set_cons_zero, List.set_cons_succ]
                        refine wpAnyH_take (i := 5) (v := undef) rfl (by kernel_rfl) (by kernel_rfl) (by kernel_rfl) (fun _ _ _ h => h) (Or.inr ⟨by rfl, rfl⟩) (by assumption) ?_
                        simp only [List.getElem_toArray, List.getElem_cons_succ, List.getElem_cons_zero, Act.put, List.setIfInBounds_toArray, List.set_cons_zero, List.set_cons_succ]
                        refine wpAnyH_take (i := 6) (v := undef) rfl (by kernel_rfl) (by kernel_rfl) (by kernel_rfl) (fun _ _ _ h => h) (Or.inr ⟨by rfl, rfl⟩) (by assumption) ?_
                        simp only [List.getElem_toArray, List.getElem_cons_succ, List.getElem_cons_zero, Act.put, List.setIfInBounds_toArray, List.set_cons_zero, List.set_cons_succ]
                        refine wpAnyH_take (i := 7) (v := undef) rfl (by kernel_rfl) (by kernel_rfl) (by kernel_rfl) (fun _ _ _ h => h) (Or.inr ⟨by rfl, rfl⟩) (by assumption) ?_
                        simp only [List.getElem_toArray, List.getElem_cons_succ, List.getElem_cons_zero, Act.put, List.setIfInBounds_toArray, List.set_cons_zero, List.set_cons_succ]
                        refine wpAnyH_take (i := 8) (v := undef) rfl (by kernel_rfl) (by kernel_rfl) (by kernel_rfl) (fun _ _ _ h => h) (Or.inr ⟨by rfl, rfl⟩) (by assumption) ?_
                        simp only [List.getElem_toArray, List.getElem_cons_succ, List.getElem_cons_zero, Act.put, List.setIfInBounds_toArray, List.set_cons_zero, List.set_cons_succ]
                        refine wpAnyH_take (i := 9) (v := undef) rfl (by kernel_rfl) (by kernel_rfl) (by kernel_rfl) (fun _ _ _ h => h) (Or.inr ⟨by rfl, rfl⟩) (by assumption) ?_
                        simp only [List.getElem_toArray, List.getElem_cons_succ, List.getElem_cons_zero, Act.put, List.setIfInBounds_toArray, List.set_cons_zero, List.set_cons_succ]
                        refine wpAnyH_take (i := 10) (v := undef) rfl (by kernel_rfl) (by kernel_rfl) (by kernel_rfl) (fun _ _ _ h => h) (Or.inr ⟨by rfl, rfl⟩) (by assumption) ?_
                        simp only [List.getElem_toArray, List.getElem_cons_succ, List.getElem_cons_zero, Act.put, List.setIfInBounds_toArray, List.set_cons_zero, List.set_cons_succ]
                        refine wpAnyH_take (i := 11) (v := .bool false) rfl (by kernel_rfl) (by kernel_rfl) (by kernel_rfl) (fun _ _ _ h => h) (Or.inl ⟨by rfl, ?_⟩) (by assumption) ?_
                        · (intro w1 hSw; (try dsimp only at hSw); go_simp)
                        simp only [List.getElem_toArray, List.getElem_cons_succ, List.getElem_cons_zero, Act.put, List.setIfInBounds_toArray, List.set_cons_zero, List.set_cons_succ]
                        refine wpAnyH_ready (rs := [12]) (by kernel_rfl) (by simp) ?_
                        refine AllReadyH.cons (o := _) rfl (fun K hK => ?_) AllReadyH.nil
                        go_simp
                        refine hK.out _ _ ?_ (fun hHeld => ?_)
                        · trivial
                        clear hK K
                        refine wpAnyH_done (by kernel_rfl) ?_ _
                        refine NoPanic.normal ?_
                        have HBd : Hid (Below w.heap.size w W2.drew.drew) := HB2.out.drew.drew
                        go_wp2_with fail
                        refine wp_region_noPanic ?_
                        refine wp_region_held_drew (S := fun _ => True) (by kernel_rfl) ?_ (fun hHeld => ?_)
                        · trivial
                        refine wpAnyH_take (i := 0) (v := .int .i64 0) rfl (by kernel_rfl) (by kernel_rfl) (by kernel_rfl) (fun _ _ _ h => h) (Or.inl ⟨by rfl, ?_⟩) (by assumption) ?_
                        · (intro w1 hSw; (try dsimp only at hSw); go_simp)
                        simp only [List.getElem_toArray, List.getElem_cons_zero, Act.put, List.setIfInBounds_toArray, List.set_cons_zero, List.set_cons_succ]
                        refine wpAnyH_take (i := 1) (v := .bool false) rfl (by kernel_rfl) (by kernel_rfl) (by kernel_rfl) (fun _ _ _ h => h) (Or.inl ⟨by rfl, ?_⟩) (by assumption) ?_
                        · (intro w1 hSw; (try dsimp only at hSw); go_simp)
                        simp only [List.getElem_toArray, List.getElem_cons_succ, List.getElem_cons_zero, Act.put, List.setIfInBounds_toArray, List.set_cons_zero, List.set_cons_succ]
                        refine wpAnyH_take (i := 2) (v := .bool false) rfl (by kernel_rfl) (by kernel_rfl) (by kernel_rfl) (fun _ _ _ h => h) (Or.inl ⟨by rfl, ?_⟩) (by assumption) ?_
                        · (intro w1 hSw; (try dsimp only at hSw); go_simp)
                        simp only [List.getElem_toArray, List.getElem_cons_succ, List.getElem_cons_zero, Act.put, List.setIfInBounds_toArray, List.set_cons_zero, List.set_cons_succ]
                        refine wpAnyH_take (i := 3) (v := undef) rfl (by kernel_rfl) (by kernel_rfl) (by kernel_rfl) (fun _ _ _ h => h) (Or.inr ⟨by rfl, rfl⟩) (by assumption) ?_
                        simp only [List.getElem_toArray, List.getElem_cons_succ, List.getElem_cons_zero, Act.put, List.setIfInBounds_toArray, List.set_cons_zero, List.set_cons_succ]
                        refine wpAnyH_take (i := 4) (v := undef) rfl (by kernel_rfl) (by kernel_rfl) (by kernel_rfl) (fun _ _ _ h => h) (Or.inr ⟨by rfl, rfl⟩) (by assumption) ?_
                        simp only [List.getElem_toArray, List.getElem_cons_succ, List.getElem_cons_zero, Act.put, List.setIfInBounds_toArray, List.set_cons_zero, List.set_cons_succ]
                        refine wpAnyH_take (i := 5) (v := undef) rfl (by kernel_rfl) (by kernel_rfl) (by kernel_rfl) (fun _ _ _ h => h) (Or.inr ⟨by rfl, rfl⟩) (by assumption) ?_
                        simp only [List.getElem_toArray, List.getElem_cons_succ, List.getElem_cons_zero, Act.put, List.setIfInBounds_toArray, List.set_cons_zero, List.set_cons_succ]
                        refine wpAnyH_take (i := 6) (v := .bool false) rfl (by kernel_rfl) (by kernel_rfl) (by kernel_rfl) (fun _ _ _ h => h) (Or.inl ⟨by rfl, ?_⟩) (by assumption) ?_
                        · (intro w1 hSw; (try dsimp only at hSw); go_simp)
                        simp only [List.getElem_toArray, List.getElem_cons_succ, List.getElem_cons_zero, Act.put, List.setIfInBounds_toArray, List.set_cons_zero, List.set_cons_succ]
                        refine wpAnyH_take (i := 7) (v := .bool false) rfl (by kernel_rfl) (by kernel_rfl) (by kernel_rfl) (fun _ _ _ h => h) (Or.inl ⟨by rfl, ?_⟩) (by assumption) ?_
                        · (intro w1 hSw; (try dsimp only at hSw); go_simp)
                        simp only [List.getElem_toArray, List.getElem_cons_succ, List.getElem_cons_zero, Act.put, List.setIfInBounds_toArray, List.set_cons_zero, List.set_cons_succ]
                        refine wpAnyH_take (i := 8) (v := undef) rfl (by kernel_rfl) (by kernel_rfl) (by kernel_rfl) (fun _ _ _ h => h) (Or.inr ⟨by rfl, rfl⟩) (by assumption) ?_
                        simp only [List.getElem_toArray, List.getElem_cons_succ, List.getElem_cons_zero, Act.put, List.setIfInBounds_toArray, List.set_cons_zero, List.set_cons_succ]
                        refine wpAnyH_take (i := 9) (v := undef) rfl (by kernel_rfl) (by kernel_rfl) (by kernel_rfl) (fun _ _ _ h => h) (Or.inr ⟨by rfl, rfl⟩) (by assumption) ?_
                        simp only [List.getElem_toArray, List.getElem_cons_succ, List.getElem_cons_zero, Act.put, List.setIfInBounds_toArray, List.set_cons_zero, List.set_cons_succ]
                        refine wpAnyH_take (i := 10) (v := undef) rfl (by kernel_rfl) (by kernel_rfl) (by kernel_rfl) (fun _ _ _ h => h) (Or.inr ⟨by rfl, rfl⟩) (by assumption) ?_
                        simp only [List.getElem_toArray, List.getElem_cons_succ, List.getElem_cons_zero, Act.put, List.setIfInBounds_toArray, List.set_cons_zero, List.set_cons_succ]
                        refine wpAnyH_take (i := 11) (v := undef) rfl (by kernel_rfl) (by kernel_rfl) (by kernel_rfl) (fun _ _ _ h => h) (Or.inr ⟨by rfl, rfl⟩) (by assumption) ?_
                        simp only [List.getElem_toArray, List.getElem_cons_succ, List.getElem_cons_zero, Act.put, List.setIfInBounds_toArray, List.set_cons_zero, List.set_cons_succ]
                        refine wpAnyH_take (i := 12) (v := undef) rfl (by kernel_rfl) (by kernel_rfl) (by kernel_rfl) (fun _ _ _ h => h) (Or.inr ⟨by rfl, rfl⟩) (by assumption) ?_
                        simp only [List.getElem_toArray, List.getElem_cons_succ, List.getElem_cons_zero, Act.put, List.setIfInBounds_toArray, List.set_cons_zero, List.set_cons_succ]
                        refine wpAnyH_take (i := 13) (v := undef) rfl (by kernel_rfl) (by kernel_rfl) (by kernel_rfl) (fun _ _ _ h => h) (Or.inr ⟨by rfl, rfl⟩) (by assumption) ?_
                        simp only [List.getElem_toArray, List.getElem_cons_succ, List.getElem_cons_zero, Act.put, List.setIfInBounds_toArray, List.set_cons_zero, List.set_cons_succ]
                        refine wpAnyH_take (i := 14) (v := undef) rfl (by kernel_rfl) (by kernel_rfl) (by kernel_rfl) (fun _ _ _ h => h) (Or.inr ⟨by rfl, rfl⟩) (by assumption) ?_
                        simp only [List.getElem_toArray, List.getElem_cons_succ, List.getElem_cons_zero, Act.put, List.setIfInBounds_toArray, List.set_cons_zero, List.set_cons_succ]
                        refine wpAnyH_take (i := 15) (v := undef) rfl (by kernel_rfl) (by kernel_rfl) (by kernel_rfl) (fun _ _ _ h => h) (Or.inr ⟨by rfl, rfl⟩) (by assumption) ?_
                        simp only [List.getElem_toArray, List.getElem_cons_succ, List.getElem_cons_zero, Act.put, List.setIfInBounds_toArray, List.set_cons_zero, List.set_cons_succ]
                        refine wpAnyH_take (i := 16) (v := undef) rfl (by kernel_rfl) (by kernel_rfl) (by kernel_rfl) (fun _ _ _ h => h) (Or.inr ⟨by rfl, rfl⟩) (by assumption) ?_
                        simp only [List.getElem_toArray, List.getElem_cons_succ, List.getElem_cons_zero, Act.put, List.setIfInBounds_toArray, List.set_cons_zero, List.set_cons_succ]
                        refine wpAnyH_take (i := 17) (v := .bool false) rfl (by kernel_rfl) (by kernel_rfl) (by kernel_rfl) (fun _ _ _ h => h) (Or.inl ⟨by rfl, ?_⟩) (by assumption) ?_
                        · (intro w1 hSw; (try dsimp only at hSw); go_simp)
                        simp only [List.getElem_toArray, List.getElem_cons_succ, List.getElem_cons_zero, Act.put, List.setIfInBounds_toArray, List.set_cons_zero, List.set_cons_succ]
                        refine wpAnyH_ready (rs := [18]) (by kernel_rfl) (by simp) ?_
                        refine AllReadyH.cons (o := _) rfl (fun K hK => ?_) AllReadyH.nil
                        go_simp
                        refine hK.out _ _ ?_ (fun hHeld => ?_)
                        · trivial
                        clear hK K
                        refine wpAnyH_done (by kernel_rfl) ?_ _
                        refine NoPanic.normal ?_
                        go_wp2_with fail
                        go_roundw
                        case rel => exact ⟨0 + 1, by go_num, by omega, HY, HBd⟩
                        case measure => simp [intOf]; omega
                      · obtain ⟨m, rfl⟩ : ∃ m, k = m + 1 := ⟨k - 1, by omega⟩
                        obtain ⟨s, Hs⟩ := hid_ex (L[m]'(by have := HKL.out; omega))
                        have HAt : Hid (L[m]? = some s) := by unfold Hid; rw [Hs.out]; exact List.getElem?_eq_getElem _
                        obtain ⟨b9, off9, e9, _, e0, e1, e2⟩ := (HU.out.below HB2.out.drew).r.at (by have := HKL.out; omega) Hs.out
                        simp only [Option.some.injEq, Addr.mk.injEq, and_true] at e9
                        obtain ⟨rfl, rfl⟩ := e9
                        obtain ⟨g0, g1, g2⟩ := three (show W2.drew.heap[wr.heap.size]? = _ from HX2.out)
                        have HC : Hid ((W2.drew.cell? ⟨b, off + m * 3, none⟩ = some (.int .i64 s.f) ∧ W2.drew.cell? ⟨b, off + m * 3 + 1, none⟩ = some (.int .i64 s.l) ∧ W2.drew.cell? ⟨b, off + m * 3 + 2, none⟩ = some (.int .i64 s.c)) ∧ W2.drew.cell? ⟨wr.heap.size, 0, none⟩ = some (.int .i64 r.f) ∧ W2.drew.cell? ⟨wr.heap.size, 1, none⟩ = some (.int .i64 r.l) ∧ W2.drew.cell? ⟨wr.heap.size, 2, none⟩ = some (.int .i64 r.c)) := ⟨⟨e0, e1, e2⟩, g0, g1, g2⟩
                        have hbd : b < W2.drew.heap.size := Nat.lt_of_lt_of_le hbw (by show wr.heap.size ≤ W2.heap.size; omega)
                        have hwd : wr.heap.size < W2.drew.heap.size := hlt2
                        clear e0 e1 e2 g0 g1 g2
                        have hwr : IntKind.i64.wrap (m : Int) = (m : Int) := by simp [IntKind.wrap, IntKind.bits, IntKind.signed]; omega
                        have hmm : ¬ ((m : Int) + 1 ≤ (m : Int)) := by omega
                        go_wp2_with fail
                        refine wp_region_noPanic ?_
                        refine wp_region_held_drew (S := fun w' => (w'.cell? ⟨b, off + m * 3, none⟩ = some (.int .i64 s.f) ∧ w'.cell? ⟨b, off + m * 3 + 1, none⟩ = some (.int .i64 s.l) ∧ w'.cell? ⟨b, off + m * 3 + 2, none⟩ = some (.int .i64 s.c)) ∧ w'.cell? ⟨wr.heap.size, 0, none⟩ = some (.int .i64 r.f) ∧ w'.cell? ⟨wr.heap.size, 1, none⟩ = some (.int .i64 r.l) ∧ w'.cell? ⟨wr.heap.size, 2, none⟩ = some (.int .i64 r.c)) (by kernel_rfl) ?_ (fun hHeld => ?_)
                        · exact HC.out
                        refine wpAnyH_take (i := 0) (v := .int .i64 ((m + 1 : Nat) : Int)) rfl (by kernel_rfl) (by kernel_rfl) (by kernel_rfl) (fun _ _ _ h => h) (Or.inl ⟨by rfl, ?_⟩) (by assumption) ?_
                        · (intro w1 hSw; (try dsimp only at hSw); go_simp)
                        simp only [List.getElem_toArray, List.getElem_cons_zero, Act.put, List.setIfInBounds_toArray, List.set_cons_zero, List.set_cons_succ]
                        refine wpAnyH_take (i := 1) (v := .bool true) rfl (by kernel_rfl) (by kernel_rfl) (by kernel_rfl) (fun _ _ _ h => h) (Or.inl ⟨by rfl, ?_⟩) (by assumption) ?_
                        · (intro w1 hSw; (try dsimp only at hSw); go_simp)
                        simp only [List.getElem_toArray, List.getElem_cons_succ, List.getElem_cons_zero, Act.put, List.setIfInBounds_toArray, List.set_cons_zero, List.set_cons_succ]
                        refine wpAnyH_take (i := 2) (v := .bool true) rfl (by kernel_rfl) (by kernel_rfl) (by kernel_rfl) (fun _ _ _ h => h) (Or.inl ⟨by rfl, ?_⟩) (by assumption) ?_
                        · (intro w1 hSw; (try dsimp only at hSw); go_simp)
                        simp only [List.getElem_toArray, List.getElem_cons_succ, List.getElem_cons_zero, Act.put, List.setIfInBounds_toArray, List.set_cons_zero, List.set_cons_succ]
                        refine wpAnyH_take (i := 3) (v := .slice (some ⟨b, off, none⟩) (m + 1) cap) rfl (by kernel_rfl) (by kernel_rfl) (by kernel_rfl) (fun _ _ _ h => h) (Or.inl ⟨by rfl, ?_⟩) (by assumption) ?_
                        · (intro w1 hSw; (try dsimp only at hSw); go_simp)
                        simp only [List.getElem_toArray, List.getElem_cons_succ, List.getElem_cons_zero, Act.put, List.setIfInBounds_toArray, List.set_cons_zero, List.set_cons_succ]
                        refine wpAnyH_take (i := 4) (v := .int .i64 ((m + 1 : Nat) : Int)) rfl (by kernel_rfl) (by kernel_rfl) (by kernel_rfl) (fun _ _ _ h => h) (Or.inl ⟨by rfl, ?_⟩) (by assumption) ?_
                        · (intro w1 hSw; (try dsimp only at hSw); go_simp)
                        simp only [List.getElem_toArray, List.getElem_cons_succ, List.getElem_cons_zero, Act.put, List.setIfInBounds_toArray, List.set_cons_zero, List.set_cons_succ]
                        refine wpAnyH_take (i := 5) (v := .int .i64 (m : Int)) rfl (by kernel_rfl) (by kernel_rfl) (by kernel_rfl) (fun _ _ _ h => h) (Or.inl ⟨by rfl, ?_⟩) (by assumption) ?_
                        · (intro w1 hSw; (try dsimp only at hSw); go_simp)
                        simp only [List.getElem_toArray, List.getElem_cons_succ, List.getElem_cons_zero, Act.put, List.setIfInBounds_toArray, List.set_cons_zero, List.set_cons_succ]
                        refine wpAnyH_take (i := 6) (v := .pointer (some ⟨b, off + m * 3, none⟩)) rfl (by kernel_rfl) (by kernel_rfl) (by kernel_rfl) (fun _ _ _ h => h) (Or.inl ⟨by rfl, ?_⟩) (by assumption) ?_
                        · (intro w1 hSw; (try dsimp only at hSw); go_simp)
                        simp only [List.getElem_toArray, List.getElem_cons_succ, List.getElem_cons_zero, Act.put, List.setIfInBounds_toArray, List.set_cons_zero, List.set_cons_succ]
                        refine wpAnyH_take (i := 7) (v := .agg #[.int .i64 s.f, .int .i64 s.l, .int .i64 s.c]) rfl (by kernel_rfl) (by kernel_rfl) (by kernel_rfl) (fun _ _ _ h => h) (Or.inl ⟨by rfl, ?_⟩) (by assumption) ?_
                        · (intro w1 hSw; (try dsimp only at hSw); go_simp)
                        simp only [List.getElem_toArray, List.getElem_cons_succ, List.getElem_cons_zero, Act.put, List.setIfInBounds_toArray, List.set_cons_zero, List.set_cons_succ]
                        refine wpAnyH_take (i := 8) (v := .agg #[.int .i64 r.f, .int .i64 r.l, .int .i64 r.c]) rfl (by kernel_rfl) (by kernel_rfl) (by kernel_rfl) (fun _ _ _ h => h) (Or.inl ⟨by rfl, ?_⟩) (by assumption) ?_
                        · (intro w1 hSw; (try dsimp only at hSw); go_simp)
                        simp only [List.getElem_toArray, List.getElem_cons_succ, List.getElem_cons_zero, Act.put, List.setIfInBounds_toArray, List.set_cons_zero, List.set_cons_succ]
                        refine wpAnyH_ready (rs := [9]) (by kernel_rfl) (by simp) ?_
                        refine AllReadyH.cons (o := _) rfl (fun K hK => ?_) AllReadyH.nil
                        go_simp
                        refine (order13_any s r _).mono ?_
                        rintro e W3 ⟨rfl, hg3⟩
                        have hb3 := hg3.below
                        have HB3 : Hid (Below w.heap.size w W3) := HB2.out.drew.trans (hb3.mono HB2.out.drew.size)
                        have HC3 : Hid ((W3.cell? ⟨b, off + m * 3, none⟩ = some (.int .i64 s.f) ∧ W3.cell? ⟨b, off + m * 3 + 1, none⟩ = some (.int .i64 s.l) ∧ W3.cell? ⟨b, off + m * 3 + 2, none⟩ = some (.int .i64 s.c)) ∧ W3.cell? ⟨wr.heap.size, 0, none⟩ = some (.int .i64 r.f) ∧ W3.cell? ⟨wr.heap.size, 1, none⟩ = some (.int .i64 r.l) ∧ W3.cell? ⟨wr.heap.size, 2, none⟩ = some (.int .i64 r.c)) :=
                          ⟨⟨(hb3.cell (p := ⟨b, _, none⟩) hbd).trans HC.out.1.1, (hb3.cell (p := ⟨b, _, none⟩) hbd).trans HC.out.1.2.1, (hb3.cell (p := ⟨b, _, none⟩) hbd).trans HC.out.1.2.2⟩, (hb3.cell (p := ⟨wr.heap.size, _, none⟩) hwd).trans HC.out.2.1, (hb3.cell (p := ⟨wr.heap.size, _, none⟩) hwd).trans HC.out.2.2.1, (hb3.cell (p := ⟨wr.heap.size, _, none⟩) hwd).trans HC.out.2.2.2⟩
                        clear hg3 hb3 HC
                        have HLt : Hid (ord13 s r < 0 ↔ ahd s r) := ord13_lt s r
                        obtain ⟨x, Hx⟩ := hid_ex (ord13 s r)
                        rw [← Hx.out] at HLt ⊢
                        go_simp
                        refine hK.out _ _ ?_ (fun hHeld => ?_)
                        · exact HC3.out
                        clear hK K
                        by_cases hx : x < 0
                        · have hx' : ¬ 0 ≤ x := by omega
                          refine wpAnyH_take (i := 10) (v := .bool false) rfl (by kernel_rfl) (by kernel_rfl) (by kernel_rfl) (fun _ _ _ h => h) (Or.inl ⟨by rfl, ?_⟩) (by assumption) ?_
                          · (intro w1 hSw; (try dsimp only at hSw); go_simp)
                          simp only [List.getElem_toArray, List.getElem_cons_succ, List.getElem_cons_zero, Act.put, List.setIfInBounds_toArray, List.set_cons_zero, List.set_cons_succ]
                          refine wpAnyH_take (i := 11) (v := .bool false) rfl (by kernel_rfl) (by kernel_rfl) (by kernel_rfl) (fun _ _ _ h => h) (Or.inl ⟨by rfl, ?_⟩) (by assumption) ?_
                          · (intro w1 hSw; (try dsimp only at hSw); go_simp)
                          simp only [List.getElem_toArray, List.getElem_cons_succ, List.getElem_cons_zero, Act.put, List.setIfInBounds_toArray, List.set_cons_zero, List.set_cons_succ]
                          refine wpAnyH_ready (rs := [12]) (by kernel_rfl) (by simp) ?_
                          refine AllReadyH.cons (o := _) rfl (fun K hK => ?_) AllReadyH.nil
                          go_simp
                          refine hK.out _ _ ?_ (fun hHeld => ?_)
                          · exact HC3.out
                          clear hK K
                          refine wpAnyH_done (by kernel_rfl) ?_ _
                          refine NoPanic.normal ?_
                          have HAh : Hid (ahd s r) := HLt.out.1 hx
                          have HCd : Hid ((W3.drew.cell? ⟨b, off + m * 3, none⟩ = some (.int .i64 s.f) ∧ W3.drew.cell? ⟨b, off + m * 3 + 1, none⟩ = some (.int .i64 s.l) ∧ W3.drew.cell? ⟨b, off + m * 3 + 2, none⟩ = some (.int .i64 s.c)) ∧ W3.drew.cell? ⟨wr.heap.size, 0, none⟩ = some (.int .i64 r.f) ∧ W3.drew.cell? ⟨wr.heap.size, 1, none⟩ = some (.int .i64 r.l) ∧ W3.drew.cell? ⟨wr.heap.size, 2, none⟩ = some (.int .i64 r.c)) := HC3.out
                          have HBd : Hid (Below w.heap.size w W3.drew) := HB3.out.drew
                          clear hx hx' HC3 Hx HLt
                          go_wp2_with fail
                          refine wp_region_noPanic ?_
                          refine wp_region_held_drew (S := fun w' => (w'.cell? ⟨b, off + m * 3, none⟩ = some (.int .i64 s.f) ∧ w'.cell? ⟨b, off + m * 3 + 1, none⟩ = some (.int .i64 s.l) ∧ w'.cell? ⟨b, off + m * 3 + 2, none⟩ = some (.int .i64 s.c)) ∧ w'.cell? ⟨wr.heap.size, 0, none⟩ = some (.int .i64 r.f) ∧ w'.cell? ⟨wr.heap.size, 1, none⟩ = some (.int .i64 r.l) ∧ w'.cell? ⟨wr.heap.size, 2, none⟩ = some (.int .i64 r.c)) (by kernel_rfl) ?_ (fun hHeld => ?_)
                          · exact HCd.out
                          refine wpAnyH_take (i := 0) (v := .int .i64 ((m + 1 : Nat) : Int)) rfl (by kernel_rfl) (by kernel_rfl) (by kernel_rfl) (fun _ _ _ h => h) (Or.inl ⟨by rfl, ?_⟩) (by assumption) ?_
                          · (intro w1 hSw; (try dsimp only at hSw); go_simp)
                          simp only [List.getElem_toArray, List.getElem_cons_zero, Act.put, List.setIfInBounds_toArray, List.set_cons_zero, List.set_cons_succ]
                          refine wpAnyH_take (i := 1) (v := .bool true) rfl (by kernel_rfl) (by kernel_rfl) (by kernel_rfl) (fun _ _ _ h => h) (Or.inl ⟨by rfl, ?_⟩) (by assumption) ?_
                          · (intro w1 hSw; (try dsimp only at hSw); go_simp)
                          simp only [List.getElem_toArray, List.getElem_cons_succ, List.getElem_cons_zero, Act.put, List.setIfInBounds_toArray, List.set_cons_zero, List.set_cons_succ]
                          refine wpAnyH_take (i := 2) (v := .bool true) rfl (by kernel_rfl) (by kernel_rfl) (by kernel_rfl) (fun _ _ _ h => h) (Or.inl ⟨by rfl, ?_⟩) (by assumption) ?_
                          · (intro w1 hSw; (try dsimp only at hSw); go_simp)
                          simp only [List.getElem_toArray, List.getElem_cons_succ, List.getElem_cons_zero, Act.put, List.setIfInBounds_toArray, List.set_cons_zero, List.set_cons_succ]
                          refine wpAnyH_take (i := 3) (v := .pointer (some ⟨wr.heap.size, 1, none⟩)) rfl (by kernel_rfl) (by kernel_rfl) (by kernel_rfl) (fun _ _ _ h => h) (Or.inl ⟨by rfl, ?_⟩) (by assumption) ?_
                          · (intro w1 hSw; (try dsimp only at hSw); go_simp)
                          simp only [List.getElem_toArray, List.getElem_cons_succ, List.getElem_cons_zero, Act.put, List.setIfInBounds_toArray, List.set_cons_zero, List.set_cons_succ]
                          refine wpAnyH_take (i := 4) (v := .int .i64 r.l) rfl (by kernel_rfl) (by kernel_rfl) (by kernel_rfl) (fun _ _ _ h => h) (Or.inl ⟨by rfl, ?_⟩) (by assumption) ?_
                          · (intro w1 hSw; (try dsimp only at hSw); go_simp)
                          simp only [List.getElem_toArray, List.getElem_cons_succ, List.getElem_cons_zero, Act.put, List.setIfInBounds_toArray, List.set_cons_zero, List.set_cons_succ]
                          by_cases hr0 : 0 < r.l
                          · have HR0 : Hid (0 < r.l) := hr0
                            refine wpAnyH_take (i := 5) (v := .bool true) rfl (by kernel_rfl) (by kernel_rfl) (by kernel_rfl) (fun _ _ _ h => h) (Or.inl ⟨by rfl, ?_⟩) (by assumption) ?_
                            · (intro w1 hSw; (try dsimp only at hSw); go_simp)
                            simp only [List.getElem_toArray, List.getElem_cons_succ, List.getElem_cons_zero, Act.put, List.setIfInBounds_toArray, List.set_cons_zero, List.set_cons_succ]
                            refine wpAnyH_take (i := 6) (v := .bool true) rfl (by kernel_rfl) (by kernel_rfl) (by kernel_rfl) (fun _ _ _ h => h) (Or.inl ⟨by rfl, ?_⟩) (by assumption) ?_
                            · (intro w1 hSw; (try dsimp only at hSw); go_simp)
                            simp only [List.getElem_toArray, List.getElem_cons_succ, List.getElem_cons_zero, Act.put, List.setIfInBounds_toArray, List.set_cons_zero, List.set_cons_succ]
                            refine wpAnyH_take (i := 7) (v := .bool true) rfl (by kernel_rfl) (by kernel_rfl) (by kernel_rfl) (fun _ _ _ h => h) (Or.inl ⟨by rfl, ?_⟩) (by assumption) ?_
                            · (intro w1 hSw; (try dsimp only at hSw); go_simp)
                            simp only [List.getElem_toArray, List.getElem_cons_succ, List.getElem_cons_zero, Act.put, List.setIfInBounds_toArray, List.set_cons_zero, List.set_cons_succ]
                            refine wpAnyH_take (i := 8) (v := .slice (some ⟨b, off, none⟩) (m + 1) cap) rfl (by kernel_rfl) (by kernel_rfl) (by kernel_rfl) (fun _ _ _ h => h) (Or.inl ⟨by rfl, ?_⟩) (by assumption) ?_
                            · (intro w1 hSw; (try dsimp only at hSw); go_simp)
                            simp only [List.getElem_toArray, List.getElem_cons_succ, List.getElem_cons_zero, Act.put, List.setIfInBounds_toArray, List.set_cons_zero, List.set_cons_succ]
                            refine wpAnyH_take (i := 9) (v := .int .i64 ((m + 1 : Nat) : Int)) rfl (by kernel_rfl) (by kernel_rfl) (by kernel_rfl) (fun _ _ _ h => h) (Or.inl ⟨by rfl, ?_⟩) (by assumption) ?_
                            · (intro w1 hSw; (try dsimp only at hSw); go_simp)
                            simp only [List.getElem_toArray, List.getElem_cons_succ, List.getElem_cons_zero, Act.put, List.setIfInBounds_toArray, List.set_cons_zero, List.set_cons_succ]
                            refine wpAnyH_take (i := 10) (v := .int .i64 (m : Int)) rfl (by kernel_rfl) (by kernel_rfl) (by kernel_rfl) (fun _ _ _ h => h) (Or.inl ⟨by rfl, ?_⟩) (by assumption) ?_
                            · (intro w1 hSw; (try dsimp only at hSw); go_simp)
                            simp only [List.getElem_toArray, List.getElem_cons_succ, List.getElem_cons_zero, Act.put, List.setIfInBounds_toArray, List.set_cons_zero, List.set_cons_succ]
                            refine wpAnyH_take (i := 11) (v := .pointer (some ⟨b, off + m * 3, none⟩)) rfl (by kernel_rfl) (by kernel_rfl) (by kernel_rfl) (fun _ _ _ h => h) (Or.inl ⟨by rfl, ?_⟩) (by assumption) ?_
                            · (intro w1 hSw; (try dsimp only at hSw); go_simp)
                            simp only [List.getElem_toArray, List.getElem_cons_succ, List.getElem_cons_zero, Act.put, List.setIfInBounds_toArray, List.set_cons_zero, List.set_cons_succ]
                            refine wpAnyH_take (i := 12) (v := .pointer (some ⟨b, off + m * 3 + 1, none⟩)) rfl (by kernel_rfl) (by kernel_rfl) (by kernel_rfl) (fun _ _ _ h => h) (Or.inl ⟨by rfl, ?_⟩) (by assumption) ?_
                            · (intro w1 hSw; (try dsimp only at hSw); go_simp)
                            simp only [List.getElem_toArray, List.getElem_cons_succ, List.getElem_cons_zero, Act.put, List.setIfInBounds_toArray, List.set_cons_zero, List.set_cons_succ]
                            refine wpAnyH_take (i := 13) (v := .int .i64 s.l) rfl (by kernel_rfl) (by kernel_rfl) (by kernel_rfl) (fun _ _ _ h => h) (Or.inl ⟨by rfl, ?_⟩) (by assumption) ?_
                            · (intro w1 hSw; (try dsimp only at hSw); go_simp)
                            simp only [List.getElem_toArray, List.getElem_cons_succ, List.getElem_cons_zero, Act.put, List.setIfInBounds_toArray, List.set_cons_zero, List.set_cons_succ]
                            refine wpAnyH_take (i := 14) (v := .pointer (some ⟨wr.heap.size, 1, none⟩)) rfl (by kernel_rfl) (by kernel_rfl) (by kernel_rfl) (fun _ _ _ h => h) (Or.inl ⟨by rfl, ?_⟩) (by assumption) ?_
                            · (intro w1 hSw; (try dsimp only at hSw); go_simp)
                            simp only [List.getElem_toArray, List.getElem_cons_succ, List.getElem_cons_zero, Act.put, List.setIfInBounds_toArray, List.set_cons_zero, List.set_cons_succ]
                            refine wpAnyH_take (i := 15) (v := .int .i64 r.l) rfl (by kernel_rfl) (by kernel_rfl) (by kernel_rfl) (fun _ _ _ h => h) (Or.inl ⟨by rfl, ?_⟩) (by assumption) ?_
                            · (intro w1 hSw; (try dsimp only at hSw); go_simp)
                            simp only [List.getElem_toArray, List.getElem_cons_succ, List.getElem_cons_zero, Act.put, List.setIfInBounds_toArray, List.set_cons_zero, List.set_cons_succ]
                            by_cases hse : s.l = r.l
                            · have hqf := HNo.out (fun h => (h.2.2 s (by omega) HAt.out).2 ⟨HR0.out, hse⟩)
                              subst hqf
                              have hbe : (s.l == r.l) = true := by simpa using hse
                              clear hse
                              refine wpAnyH_take (i := 16) (v := .bool true) rfl (by kernel_rfl) (by kernel_rfl) (by kernel_rfl) (fun _ _ _ h => h) (Or.inl ⟨by rfl, ?_⟩) (by assumption) ?_
                              · (intro w1 hSw; (try dsimp only at hSw); go_simp)
                              simp only [List.getElem_toArray, List.getElem_cons_succ, List.getElem_cons_zero, Act.put, List.setIfInBounds_toArray, List.set_cons_zero, List.set_cons_succ]
                              refine wpAnyH_take (i := 17) (v := .bool true) rfl (by kernel_rfl) (by kernel_rfl) (by kernel_rfl) (fun _ _ _ h => h) (Or.inl ⟨by rfl, ?_⟩) (by assumption) ?_
                              · (intro w1 hSw; (try dsimp only at hSw); go_simp)
                              simp only [List.getElem_toArray, List.getElem_cons_succ, List.getElem_cons_zero, Act.put, List.setIfInBounds_toArray, List.set_cons_zero, List.set_cons_succ]
                              refine wpAnyH_ready (rs := [18]) (by kernel_rfl) (by simp) ?_
                              refine AllReadyH.cons (o := _) rfl (fun K hK => ?_) AllReadyH.nil
                              go_simp
                              refine hK.out _ _ ?_ (fun hHeld => ?_)
                              · exact HCd.out
                              clear hK K
                              refine wpAnyH_done (by kernel_rfl) ?_ _
                              refine NoPanic.normal ?_
                              go_wp2_with fail
                              go_ret
                              exact ⟨rfl, HBd.out⟩
                            · have HY : Hid (∀ j (hj : j < L.length), j < m + 1 + 1 → fitR L[j] ne ∧ nbR L j L[j]) := HYes.out ⟨HF.out, HNf.out, fun a _ ha => by
                                obtain rfl : s = a := by have := HAt.out.symm.trans ha; simpa using this
                                exact ⟨HAh.out, fun z => hse z.2⟩⟩
                              have hbe : (s.l == r.l) = false := by simpa using hse
                              clear hse
                              refine wpAnyH_take (i := 16) (v := .bool false) rfl (by kernel_rfl) (by kernel_rfl) (by kernel_rfl) (fun _ _ _ h => h) (Or.inl ⟨by rfl, ?_⟩) (by assumption) ?_
                              · (intro w1 hSw; (try dsimp only at hSw); go_simp)
                              simp only [List.getElem_toArray, List.getElem_cons_succ, List.getElem_cons_zero, Act.put, List.setIfInBounds_toArray, List.set_cons_zero, List.set_cons_succ]
                              refine wpAnyH_take (i := 17) (v := .bool false) rfl (by kernel_rfl) (by kernel_rfl) (by kernel_rfl) (fun _ _ _ h => h) (Or.inl ⟨by rfl, ?_⟩) (by assumption) ?_
                              · (intro w1 hSw; (try dsimp only at hSw); go_simp)
                              simp only [List.getElem_toArray, List.getElem_cons_succ, List.getElem_cons_zero, Act.put, List.setIfInBounds_toArray, List.set_cons_zero, List.set_cons_succ]
                              refine wpAnyH_ready (rs := [18]) (by kernel_rfl) (by simp) ?_
                              refine AllReadyH.cons (o := _) rfl (fun K hK => ?_) AllReadyH.nil
                              go_simp
                              refine hK.out _ _ ?_ (fun hHeld => ?_)
                              · exact HCd.out
                              clear hK K
                              refine wpAnyH_done (by kernel_rfl) ?_ _
                              refine NoPanic.normal ?_
                              go_wp2_with fail
                              go_roundw
                              case rel => exact ⟨m + 1 + 1, by go_num, by omega, HY, HBd⟩
                              case measure => simp [intOf]; omega
                          · have HY : Hid (∀ j (hj : j < L.length), j < m + 1 + 1 → fitR L[j] ne ∧ nbR L j L[j]) := HYes.out ⟨HF.out, HNf.out, fun a _ ha => by
                              obtain rfl : s = a := by have := HAt.out.symm.trans ha; simpa using this
                              exact ⟨HAh.out, fun z => hr0 z.1⟩⟩
                            refine wpAnyH_take (i := 5) (v := .bool false) rfl (by kernel_rfl) (by kernel_rfl) (by kernel_rfl) (fun _ _ _ h => h) (Or.inl ⟨by rfl, ?_⟩) (by assumption) ?_
                            · (intro w1 hSw; (try dsimp only at hSw); go_simp)
                            simp only [List.getElem_toArray, List.getElem_cons_succ, List.getElem_cons_zero, Act.put, List.setIfInBounds_toArray, List.set_cons_zero, List.set_cons_succ]
                            refine wpAnyH_take (i := 6) (v := .bool false) rfl (by kernel_rfl) (by kernel_rfl) (by kernel_rfl) (fun _ _ _ h => h) (Or.inl ⟨by rfl, ?_⟩) (by assumption) ?_
                            · (intro w1 hSw; (try dsimp only at hSw); go_simp)
                            simp only [List.getElem_toArray, List.getElem_cons_succ, List.getElem_cons_zero, Act.put, List.setIfInBounds_toArray, List.set_cons_zero, List.set_cons_succ]
                            refine wpAnyH_take (i := 7) (v := .bool false) rfl (by kernel_rfl) (by kernel_rfl) (by kernel_rfl) (fun _ _ _ h => h) (Or.inl ⟨by rfl, ?_⟩) (by assumption) ?_
                            · (intro w1 hSw; (try dsimp only at hSw); go_simp)
                            simp only [List.getElem_toArray, List.getElem_cons_succ, List.getElem_cons_zero, Act.put, List.setIfInBounds_toArray, List.set_cons_zero, List.set_cons_succ]
                            refine wpAnyH_take (i := 8) (v := undef) rfl (by kernel_rfl) (by kernel_rfl) (by kernel_rfl) (fun _ _ _ h => h) (Or.inr ⟨by rfl, rfl⟩) (by assumption) ?_
                            simp only [List.getElem_toArray, List.getElem_cons_succ, List.getElem_cons_zero, Act.put, List.setIfInBounds_toArray, List.set_cons_zero, List.set_cons_succ]
                            refine wpAnyH_take (i := 9) (v := undef) rfl (by kernel_rfl) (by kernel_rfl) (by kernel_rfl) (fun _ _ _ h => h) (Or.inr ⟨by rfl, rfl⟩) (by assumption) ?_
                            simp only [List.getElem_toArray, List.getElem_cons_succ, List.getElem_cons_zero, Act.put, List.setIfInBounds_toArray, List.set_cons_zero, List.set_cons_succ]
                            refine wpAnyH_take (i := 10) (v := undef) rfl (by kernel_rfl) (by kernel_rfl) (by kernel_rfl) (fun _ _ _ h => h) (Or.inr ⟨by rfl, rfl⟩) (by assumption) ?_
                            simp only [List.getElem_toArray, List.getElem_cons_succ, List.getElem_cons_zero, Act.put, List.setIfInBounds_toArray, List.set_cons_zero, List.set_cons_succ]
                            refine wpAnyH_take (i := 11) (v := undef) rfl (by kernel_rfl) (by kernel_rfl) (by kernel_rfl) (fun _ _ _ h => h) (Or.inr ⟨by rfl, rfl⟩) (by assumption) ?_
                            simp only [List.getElem_toArray, List.getElem_cons_succ, List.getElem_cons_zero, Act.put, List.setIfInBounds_toArray, List.set_cons_zero, List.set_cons_succ]
                            refine wpAnyH_take (i := 12) (v := undef) rfl (by kernel_rfl) (by kernel_rfl) (by kernel_rfl) (fun _ _ _ h => h) (Or.inr ⟨by rfl, rfl⟩) (by assumption) ?_
                            simp only [List.getElem_toArray, List.getElem_cons_succ, List.getElem_cons_zero, Act.put, List.setIfInBounds_toArray, List.set_cons_zero, List.set_cons_succ]
                            refine wpAnyH_take (i := 13) (v := undef) rfl (by kernel_rfl) (by kernel_rfl) (by kernel_rfl) (fun _ _ _ h => h) (Or.inr ⟨by rfl, rfl⟩) (by assumption) ?_
                            simp only [List.getElem_toArray, List.getElem_cons_succ, List.getElem_cons_zero, Act.put, List.setIfInBounds_toArray, List.set_cons_zero, List.set_cons_succ]
                            refine wpAnyH_take (i := 14) (v := undef) rfl (by kernel_rfl) (by kernel_rfl) (by kernel_rfl) (fun _ _ _ h => h) (Or.inr ⟨by rfl, rfl⟩) (by assumption) ?_
                            simp only [List.getElem_toArray, List.getElem_cons_succ, List.getElem_cons_zero, Act.put, List.setIfInBounds_toArray, List.set_cons_zero, List.set_cons_succ]
                            refine wpAnyH_take (i := 15) (v := undef) rfl (by kernel_rfl) (by kernel_rfl) (by kernel_rfl) (fun _ _ _ h => h) (Or.inr ⟨by rfl, rfl⟩) (by assumption) ?_
                            simp only [List.getElem_toArray, List.getElem_cons_succ, List.getElem_cons_zero, Act.put, List.setIfInBounds_toArray, List.set_cons_zero, List.set_cons_succ]
                            refine wpAnyH_take (i := 16) (v := undef) rfl (by kernel_rfl) (by kernel_rfl) (by kernel_rfl) (fun _ _ _ h => h) (Or.inr ⟨by rfl, rfl⟩) (by assumption) ?_
                            simp only [List.getElem_toArray, List.getElem_cons_succ, List.getElem_cons_zero, Act.put, List.setIfInBounds_toArray, List.set_cons_zero, List.set_cons_succ]
                            refine wpAnyH_take (i := 17) (v := .bool false) rfl (by kernel_rfl) (by kernel_rfl) (by kernel_rfl) (fun _ _ _ h => h) (Or.inl ⟨by rfl, ?_⟩) (by assumption) ?_
                            · (intro w1 hSw; (try dsimp only at hSw); go_simp)
                            simp only [List.getElem_toArray, List.getElem_cons_succ, List.getElem_cons_zero, Act.put, List.setIfInBounds_toArray, List.set_cons_zero, List.set_cons_succ]
                            refine wpAnyH_ready (rs := [18]) (by kernel_rfl) (by simp) ?_
                            refine AllReadyH.cons (o := _) rfl (fun K hK => ?_) AllReadyH.nil
                            go_simp
                            refine hK.out _ _ ?_ (fun hHeld => ?_)
                            · exact HCd.out
                            clear hK K
                            refine wpAnyH_done (by kernel_rfl) ?_ _
                            refine NoPanic.normal ?_
                            go_wp2_with fail
                            go_roundw
                            case rel => exact ⟨m + 1 + 1, by go_num, by omega, HY, HBd⟩
                            case measure => simp [intOf]; omega
                        · have hx' : 0 ≤ x := by omega
                          have hqf := HNo.out (fun h => hx (HLt.out.2 (h.2.2 s (by omega) HAt.out).1))
                          subst hqf
                          refine wpAnyH_take (i := 10) (v := .bool true) rfl (by kernel_rfl) (by kernel_rfl) (by kernel_rfl) (fun _ _ _ h => h) (Or.inl ⟨by rfl, ?_⟩) (by assumption) ?_
                          · (intro w1 hSw; (try dsimp only at hSw); go_simp)
                          simp only [List.getElem_toArray, List.getElem_cons_succ, List.getElem_cons_zero, Act.put, List.setIfInBounds_toArray, List.set_cons_zero, List.set_cons_succ]
                          refine wpAnyH_take (i := 11) (v := .bool true) rfl (by kernel_rfl) (by kernel_rfl) (by kernel_rfl) (fun _ _ _ h => h) (Or.inl ⟨by rfl, ?_⟩) (by assumption) ?_
                          · (intro w1 hSw; (try dsimp only at hSw); go_simp)
                          simp only [List.getElem_toArray, List.getElem_cons_succ, List.getElem_cons_zero, Act.put, List.setIfInBounds_toArray, List.set_cons_zero, List.set_cons_succ]
                          refine wpAnyH_ready (rs := [12]) (by kernel_rfl) (by simp) ?_
                          refine AllReadyH.cons (o := _) rfl (fun K hK => ?_) AllReadyH.nil
                          go_simp
                          refine hK.out _ _ ?_ (fun hHeld => ?_)
                          · exact HC3.out
                          clear hK K
                          refine wpAnyH_done (by kernel_rfl) ?_ _
                          refine NoPanic.normal ?_
                          go_wp2_with fail
                          go_ret
                          exact ⟨rfl, HB3.out⟩
      · have hlt' : ¬ (k : Int) < (N : Int) := by omega
        have hqt : q = true := by rw [Hq.out]; exact decide_eq_true (okRs_of (by rw [HN.out]; exact h64) fun j hj => HP.out j hj (by have := HN.out; omega))
        subst hqt
        go_wp2_with fail
        go_ret
        exact ⟨rfl, HB.out⟩
  · have h64' : (64 : Int) < (N : Int) := by omega
    have hqf : q = false := by rw [Hq.out]; exact decide_eq_false fun h => by have := h.1; rw [HN.out] at this; omega
    subst hqf
    go_enter Tryz.func58, Tryz.ntmps58
    go_wp2_with fail
    go_ret
    exact ⟨rfl, Below.refl _ _⟩
end Go.Proofs.YtilbffgpniomcaaGreatDoor
