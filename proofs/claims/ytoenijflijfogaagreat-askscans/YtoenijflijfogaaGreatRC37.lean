/- RM1x, joined. -/
import Derived.Test.YtoenijflijfogaaGreatRC3
import Derived.Test.YtoenijflijfogaaGreatRC36
/- The contract of the reference's Merge of what is known (written by mkrm1.py). -/
namespace Go.Proofs.YtoenijflijfogaaGreat
open Go.RowKit
theorem set6' {w : World} {b : Nat} {T : TypeId} {x0 x1 x2 x3 x4 x5 : Value} (h : w.heap[b]? = some (.cells #[x0, x1, x2, x3, x4, x5] T)) (v0 v1 v2 v3 v4 v5 : Value) :
    ((((((w.setCell ⟨b, 0, none⟩ v0).setCell ⟨b, 1, none⟩ v1).setCell ⟨b, 2, none⟩ v2).setCell ⟨b, 3, none⟩ v3).setCell ⟨b, 4, none⟩ v4).setCell ⟨b, 5, none⟩ v5).heap[b]? = some (.cells #[v0, v1, v2, v3, v4, v5] T) := by
  have h0 := Go.heap_setCell_same w b 0 _ _ v0 h
  have h1 := Go.heap_setCell_same _ b 1 _ _ v1 h0
  have h2 := Go.heap_setCell_same _ b 2 _ _ v2 h1
  have h3 := Go.heap_setCell_same _ b 3 _ _ v3 h2
  have h4 := Go.heap_setCell_same _ b 4 _ _ v4 h3
  have h5 := Go.heap_setCell_same _ b 5 _ _ v5 h4
  simpa using h5
theorem below6' {w0 w : World} {n b : Nat} (h : Below n w0 w) (hb : n ≤ b) (v0 v1 v2 v3 v4 v5 : Value) :
    Below n w0 ((((((w.setCell ⟨b, 0, none⟩ v0).setCell ⟨b, 1, none⟩ v1).setCell ⟨b, 2, none⟩ v2).setCell ⟨b, 3, none⟩ v3).setCell ⟨b, 4, none⟩ v4).setCell ⟨b, 5, none⟩ v5) := (((((h.setCell hb _).setCell hb _).setCell hb _).setCell hb _).setCell hb _).setCell hb _
theorem c_rw {w : World} {b : Nat} {cs : Array Value} {T : TypeId} (h : w.heap[b]? = some (.cells cs T)) (i : Nat) (hi : i < cs.size) : w.cell? ⟨b, i, none⟩ = some cs[i] := by
  simp [World.cell?, h, hi]
theorem f_rw {w : World} {b : Nat} {cs : Array Value} {T : TypeId} (h : w.heap[b]? = some (.cells cs T)) (i : Nat) : w.frozen? ⟨b, i, none⟩ = false := by
  simp [World.frozen?, h]
theorem res_r {fn : Func} {p : Tmp} {ty : TypeId} (h : fn.results = #[.cell p ty]) (tmps : Array Value) (w : World) (g : Nat) (cs : Array Value)
    (hp : tmps.getD p undef = .pointer (some ⟨g, 0, none⟩)) (hl : (loadVar ty ⟨g, 0, none⟩).run Tryz.prog w = .ok (.agg cs) w) :
    (results fn tmps).run Tryz.prog w = .ok (.agg cs) w := by
  have hp' : tmps[p]?.getD undef = .pointer (some ⟨g, 0, none⟩) := by simpa using hp
  simp [results, h, hp', asAddr, hl]

theorem heap_3 (w : World) (o1 o2 o3 : Obj) : (((w.alloc o1).alloc o2).alloc o3).heap[w.heap.size]? = some o1 ∧ (((w.alloc o1).alloc o2).alloc o3).heap[w.heap.size + 1]? = some o2 ∧ (((w.alloc o1).alloc o2).alloc o3).heap[w.heap.size + 2]? = some o3 := by
  have h1 := heap_alloc_new w o1
  have h2 := heap_alloc_new (w.alloc o1) o2
  have h3 := heap_alloc_new ((w.alloc o1).alloc o2) o3
  rw [World.size_alloc] at h2
  rw [World.size_alloc, World.size_alloc] at h3
  refine ⟨?_, ?_, h3⟩
  · rw [Below.heap_alloc _ _ _ (by simp; omega), Below.heap_alloc _ _ _ (by simp)]; exact h1
  · rw [Below.heap_alloc _ _ _ (by simp)]; exact h2
set_option maxRecDepth 100000 in
set_option maxHeartbeats 1000000 in
theorem refMerge_left (a b : Ag) (h : a.c = 0) (w : World) :
    Calls Tryz.prog 29 #[.agg #[.int .u64 a.c, .bool a.o, .int .i64 (hi a.s), .int .u64 (lo a.s), .int .i64 a.mn, .int .i64 a.mx], .agg #[.int .u64 b.c, .bool b.o, .int .i64 (hi b.s), .int .u64 (lo b.s), .int .i64 b.mn, .int .i64 b.mx]] w fun e w' => e = .returned (.agg #[.int .u64 (mrg a b).c, .bool (mrg a b).o, .int .i64 (hi (mrg a b).s), .int .u64 (lo (mrg a b).s), .int .i64 (mrg a b).mn, .int .i64 (mrg a b).mx]) ∧ Below w.heap.size w w' := by
  have e : mrg a b = b := by unfold mrg; rw [if_pos h]
  rw [e]
  have hb : (a.c == 0) = true := by simp [h]
  clear e h
  go_enter Tryz.func29, Tryz.ntmps29
  go_wp2_with fail
  refine bodyPost_ret (v := .agg #[.int .u64 b.c, .bool b.o, .int .i64 (hi b.s), .int .u64 (lo b.s), .int .i64 b.mn, .int .i64 b.mx]) (by simp [results, Tryz.results29, go_sem]) rfl ⟨rfl, ?_⟩
  repeat (first | exact Below.refl _ _ | refine Below.drew ?_ | refine Below.alloc ?_ (by first | (simp; done) | (simp; omega)) _)
set_option maxRecDepth 100000 in
set_option maxHeartbeats 1000000 in
theorem refMerge_right (a b : Ag) (h : a.c ≠ 0) (h2 : b.c = 0) (w : World) :
    Calls Tryz.prog 29 #[.agg #[.int .u64 a.c, .bool a.o, .int .i64 (hi a.s), .int .u64 (lo a.s), .int .i64 a.mn, .int .i64 a.mx], .agg #[.int .u64 b.c, .bool b.o, .int .i64 (hi b.s), .int .u64 (lo b.s), .int .i64 b.mn, .int .i64 b.mx]] w fun e w' => e = .returned (.agg #[.int .u64 (mrg a b).c, .bool (mrg a b).o, .int .i64 (hi (mrg a b).s), .int .u64 (lo (mrg a b).s), .int .i64 (mrg a b).mn, .int .i64 (mrg a b).mx]) ∧ Below w.heap.size w w' := by
  have e : mrg a b = a := by unfold mrg; rw [if_neg h, if_pos h2]
  rw [e]
  have hb : (a.c == 0) = false := by simp [h]
  have hb2 : (b.c == 0) = true := by simp [h2]
  clear e h h2
  go_enter Tryz.func29, Tryz.ntmps29
  go_wp2_with fail
  refine bodyPost_ret (v := .agg #[.int .u64 a.c, .bool a.o, .int .i64 (hi a.s), .int .u64 (lo a.s), .int .i64 a.mn, .int .i64 a.mx]) (by simp [results, Tryz.results29, go_sem]) rfl ⟨rfl, ?_⟩
  repeat (first | exact Below.refl _ _ | refine Below.drew ?_ | refine Below.alloc ?_ (by first | (simp; done) | (simp; omega)) _)
set_option maxRecDepth 100000 in
set_option maxHeartbeats 4000000 in
theorem refMerge_both (a b : Ag) (h : a.c ≠ 0) (h2 : b.c ≠ 0) (a1 : 0 ≤ a.c) (a2 : a.c < 18446744073709551616) (b1 : 0 ≤ b.c) (b2 : b.c < 18446744073709551616) (ao : a.o = true → a.c = 18446744073709551615) (bo : b.o = true → b.c = 18446744073709551615) (w : World) :
    Calls Tryz.prog 29 #[.agg #[.int .u64 a.c, .bool a.o, .int .i64 (hi a.s), .int .u64 (lo a.s), .int .i64 a.mn, .int .i64 a.mx], .agg #[.int .u64 b.c, .bool b.o, .int .i64 (hi b.s), .int .u64 (lo b.s), .int .i64 b.mn, .int .i64 b.mx]] w fun e w' => e = .returned (.agg #[.int .u64 (mrg a b).c, .bool (mrg a b).o, .int .i64 (hi (mrg a b).s), .int .u64 (lo (mrg a b).s), .int .i64 (mrg a b).mn, .int .i64 (mrg a b).mx]) ∧ Below w.heap.size w w' := by
  have hb : (a.c == 0) = false := by simp [h]
  have hb2 : (b.c == 0) = false := by simp [h2]
  have HAD : Hid (∀ W, Calls Tryz.prog 55 #[.agg #[.int .i64 (hi a.s), .int .u64 (lo a.s)], .agg #[.int .i64 (hi b.s), .int .u64 (lo b.s)]] W fun e w' => e = .returned (.agg #[.int .i64 (hi (a.s + b.s)), .int .u64 (lo (a.s + b.s))]) ∧ Below W.heap.size W w') := fun W => refAdd_any a.s b.s W
  go_enter Tryz.func29, Tryz.ntmps29
  go_wp2_with fail
  obtain ⟨w3, HW3⟩ := hid_ex (((w.alloc (.cells #[.int .u64 a.c, .bool a.o, .int .i64 (hi a.s), .int .u64 (lo a.s), .int .i64 a.mn, .int .i64 a.mx] 36)).alloc (.cells #[.int .u64 b.c, .bool b.o, .int .i64 (hi b.s), .int .u64 (lo b.s), .int .i64 b.mn, .int .i64 b.mx] 36)).alloc (.cells #[.int .u64 0, .bool false, .int .i64 0, .int .u64 0, .int .i64 0, .int .i64 0] 36))
  rw [← HW3.out]
  have HA : Hid (w3.heap[w.heap.size]? = some (.cells #[.int .u64 a.c, .bool a.o, .int .i64 (hi a.s), .int .u64 (lo a.s), .int .i64 a.mn, .int .i64 a.mx] 36)) := by rw [HW3.out]; exact (heap_3 w _ _ _).1
  have HB : Hid (w3.heap[w.heap.size + 1]? = some (.cells #[.int .u64 b.c, .bool b.o, .int .i64 (hi b.s), .int .u64 (lo b.s), .int .i64 b.mn, .int .i64 b.mx] 36)) := by rw [HW3.out]; exact (heap_3 w _ _ _).2.1
  have HR : Hid (w3.heap[w.heap.size + 2]? = some (.cells #[.int .u64 0, .bool false, .int .i64 0, .int .u64 0, .int .i64 0, .int .i64 0] 36)) := by rw [HW3.out]; exact (heap_3 w _ _ _).2.2
  have hz3 : w3.heap.size = w.heap.size + 3 := by rw [HW3.out]; simp
  have HB3 : Hid (Below w.heap.size w w3) := by rw [HW3.out]; exact (((Below.refl _ _).alloc (by simp) _).alloc (by simp) _).alloc (by simp; omega) _
  clear HW3
  have HCA : Hid (∀ W, Below w3.heap.size w3 W → W.heap[w.heap.size]? = some (.cells #[.int .u64 a.c, .bool a.o, .int .i64 (hi a.s), .int .u64 (lo a.s), .int .i64 a.mn, .int .i64 a.mx] 36) ∧ W.heap[w.heap.size + 1]? = some (.cells #[.int .u64 b.c, .bool b.o, .int .i64 (hi b.s), .int .u64 (lo b.s), .int .i64 b.mn, .int .i64 b.mx] 36) ∧ W.heap[w.heap.size + 2]? = some (.cells #[.int .u64 0, .bool false, .int .i64 0, .int .u64 0, .int .i64 0, .int .i64 0] 36)) := fun W hW => ⟨(hW.block _ (by omega)).trans HA.out, (hW.block _ (by omega)).trans HB.out, (hW.block _ (by omega)).trans HR.out⟩
  refine wp_region_noPanic ?_
  refine wp_region_held_drew (S := (fun w' => Below w3.heap.size w3 w')) (by kernel_rfl) ?_ (fun hHeld => ?_)
  · exact (Below.refl _ _).drew
  refine wpAnyH_take (i := 0) (v := .pointer (some ⟨w.heap.size, 2, none⟩)) rfl (by kernel_rfl) (by kernel_rfl) (by kernel_rfl) (fun _ _ _ h => h) (Or.inl ⟨by rfl, ?_⟩) (by assumption) ?_
  · (intro w1 hSw; (try dsimp only at hSw); go_simp)
  simp only [List.getElem_toArray, List.getElem_cons_zero, Act.put, List.setIfInBounds_toArray, List.set_cons_zero, List.set_cons_succ]
  refine wpAnyH_take (i := 1) (v := .agg #[.int .i64 (hi a.s), .int .u64 (lo a.s)]) rfl (by kernel_rfl) (by kernel_rfl) (by kernel_rfl) (fun _ _ _ h => h) (Or.inl ⟨by rfl, ?_⟩) (by assumption) ?_
  · (intro w1 hSw; (try dsimp only at hSw); have c2 := c_rw (HCA.out _ hSw).1 2 (by simp); have c3 := c_rw (HCA.out _ hSw).1 3 (by simp); simp only [List.getElem_toArray, List.getElem_cons_succ, List.getElem_cons_zero] at c2 c3; go_simp)
  simp only [List.getElem_toArray, List.getElem_cons_succ, List.getElem_cons_zero, Act.put, List.setIfInBounds_toArray, List.set_cons_zero, List.set_cons_succ]
  refine wpAnyH_take (i := 2) (v := .pointer (some ⟨w.heap.size + 1, 2, none⟩)) rfl (by kernel_rfl) (by kernel_rfl) (by kernel_rfl) (fun _ _ _ h => h) (Or.inl ⟨by rfl, ?_⟩) (by assumption) ?_
  · (intro w1 hSw; (try dsimp only at hSw); go_simp)
  simp only [List.getElem_toArray, List.getElem_cons_succ, List.getElem_cons_zero, Act.put, List.setIfInBounds_toArray, List.set_cons_zero, List.set_cons_succ]
  refine wpAnyH_take (i := 3) (v := .agg #[.int .i64 (hi b.s), .int .u64 (lo b.s)]) rfl (by kernel_rfl) (by kernel_rfl) (by kernel_rfl) (fun _ _ _ h => h) (Or.inl ⟨by rfl, ?_⟩) (by assumption) ?_
  · (intro w1 hSw; (try dsimp only at hSw); have c2 := c_rw (HCA.out _ hSw).2.1 2 (by simp); have c3 := c_rw (HCA.out _ hSw).2.1 3 (by simp); simp only [List.getElem_toArray, List.getElem_cons_succ, List.getElem_cons_zero] at c2 c3; go_simp)
  simp only [List.getElem_toArray, List.getElem_cons_succ, List.getElem_cons_zero, Act.put, List.setIfInBounds_toArray, List.set_cons_zero, List.set_cons_succ]
  refine wpAnyH_take (i := 5) (v := .pointer (some ⟨w.heap.size, 4, none⟩)) rfl (by kernel_rfl) (by kernel_rfl) (by kernel_rfl) (fun _ _ _ h => h) (Or.inl ⟨by rfl, ?_⟩) (by assumption) ?_
  · (intro w1 hSw; (try dsimp only at hSw); go_simp)
  simp only [List.getElem_toArray, List.getElem_cons_succ, List.getElem_cons_zero, Act.put, List.setIfInBounds_toArray, List.set_cons_zero, List.set_cons_succ]
  refine wpAnyH_take (i := 6) (v := .int .i64 a.mn) rfl (by kernel_rfl) (by kernel_rfl) (by kernel_rfl) (fun _ _ _ h => h) (Or.inl ⟨by rfl, ?_⟩) (by assumption) ?_
  · (intro w1 hSw; (try dsimp only at hSw); have c2 := c_rw (HCA.out _ hSw).1 4 (by simp); simp only [List.getElem_toArray, List.getElem_cons_succ, List.getElem_cons_zero] at c2; go_simp)
  simp only [List.getElem_toArray, List.getElem_cons_succ, List.getElem_cons_zero, Act.put, List.setIfInBounds_toArray, List.set_cons_zero, List.set_cons_succ]
  refine wpAnyH_take (i := 7) (v := .pointer (some ⟨w.heap.size, 5, none⟩)) rfl (by kernel_rfl) (by kernel_rfl) (by kernel_rfl) (fun _ _ _ h => h) (Or.inl ⟨by rfl, ?_⟩) (by assumption) ?_
  · (intro w1 hSw; (try dsimp only at hSw); go_simp)
  simp only [List.getElem_toArray, List.getElem_cons_succ, List.getElem_cons_zero, Act.put, List.setIfInBounds_toArray, List.set_cons_zero, List.set_cons_succ]
  refine wpAnyH_take (i := 8) (v := .int .i64 a.mx) rfl (by kernel_rfl) (by kernel_rfl) (by kernel_rfl) (fun _ _ _ h => h) (Or.inl ⟨by rfl, ?_⟩) (by assumption) ?_
  · (intro w1 hSw; (try dsimp only at hSw); have c2 := c_rw (HCA.out _ hSw).1 5 (by simp); simp only [List.getElem_toArray, List.getElem_cons_succ, List.getElem_cons_zero] at c2; go_simp)
  simp only [List.getElem_toArray, List.getElem_cons_succ, List.getElem_cons_zero, Act.put, List.setIfInBounds_toArray, List.set_cons_zero, List.set_cons_succ]
  refine wpAnyH_ready (rs := [4, 10]) (by kernel_rfl) (by simp) ?_
  refine AllReadyH.cons (o := _) rfl (fun K hK => ?_) (AllReadyH.cons (o := _) rfl (fun K hK => ?_) AllReadyH.nil)
  · go_simp
    refine (HAD.out _).mono ?_
    rintro e w4 ⟨rfl, hb4'⟩
    have hb4 : Below w3.heap.size w3 w4 := (Below.refl w3.heap.size w3).drew.trans hb4'
    refine hK.out _ _ ?_ (fun hHeld => ?_)
    · exact hb4
    clear hK K
    refine wpAnyH_take (i := 9) (v := .agg #[.int .u64 0, .bool false, .int .i64 (hi (a.s + b.s)), .int .u64 (lo (a.s + b.s)), .int .i64 a.mn, .int .i64 a.mx]) rfl (by kernel_rfl) (by kernel_rfl) (by kernel_rfl) (fun _ _ _ h => h) (Or.inl ⟨by rfl, ?_⟩) (by assumption) ?_
    · (intro w1 hSw; (try dsimp only at hSw); go_simp)
    simp only [List.getElem_toArray, List.getElem_cons_succ, List.getElem_cons_zero, Act.put, List.setIfInBounds_toArray, List.set_cons_zero, List.set_cons_succ]
    refine wpAnyH_ready (rs := [10]) (by kernel_rfl) (by simp) ?_
    refine AllReadyH.cons (o := _) rfl (fun K hK => ?_) AllReadyH.nil
    go_simp
    obtain ⟨w5, HW5⟩ := hid_ex (w4.alloc (.cells #[.int .u64 0, .bool false, .int .i64 0, .int .u64 0, .int .i64 0, .int .i64 0] 36))
    rw [← HW5.out]
    have hb5 : Below w3.heap.size w3 w5 := by rw [HW5.out]; exact hb4.alloc hb4.size _
    have HX5 : Hid (w5.heap[w4.heap.size]? = some (.cells #[.int .u64 0, .bool false, .int .i64 0, .int .u64 0, .int .i64 0, .int .i64 0] 36)) := by rw [HW5.out]; exact heap_alloc_new w4 _
    have hx3 : w.heap.size + 3 ≤ w4.heap.size := by have := hb4.size; omega
    obtain ⟨x, hxe⟩ : ∃ x, x = w4.heap.size := ⟨_, rfl⟩
    rw [← hxe] at HX5 hx3 ⊢
    refine hK.out _ _ ?_ (fun hHeld => ?_)
    · exact hb5
    clear hK K
    clear HW5 hxe hb4 hb4'
    have q0 := c_rw HX5.out 0 (by simp)
    have q1 := c_rw HX5.out 1 (by simp)
    have q2 := c_rw HX5.out 2 (by simp)
    have q3 := c_rw HX5.out 3 (by simp)
    have q4 := c_rw HX5.out 4 (by simp)
    have q5 := c_rw HX5.out 5 (by simp)
    simp only [List.getElem_toArray, List.getElem_cons_succ, List.getElem_cons_zero] at q0 q1 q2 q3 q4 q5
    have g0 := f_rw HX5.out 0
    have g1 := f_rw HX5.out 1
    have g2 := f_rw HX5.out 2
    have g3 := f_rw HX5.out 3
    have g4 := f_rw HX5.out 4
    have g5 := f_rw HX5.out 5
    refine wpAnyH_ready (rs := [11]) (by kernel_rfl) (by simp) ?_
    refine AllReadyH.cons (o := _) rfl (fun K hK => ?_) AllReadyH.nil
    go_simp
    obtain ⟨w6, HW6⟩ := hid_ex ((((((w5.setCell ⟨x, 0, none⟩ (.int .u64 0)).setCell ⟨x, 1, none⟩ (.bool false)).setCell ⟨x, 2, none⟩ (.int .i64 (hi (a.s + b.s)))).setCell ⟨x, 3, none⟩ (.int .u64 (lo (a.s + b.s)))).setCell ⟨x, 4, none⟩ (.int .i64 a.mn)).setCell ⟨x, 5, none⟩ (.int .i64 a.mx))
    rw [← HW6.out]
    have hb6 : Below w3.heap.size w3 w6 := by rw [HW6.out]; exact below6' hb5 (by omega) _ _ _ _ _ _
    have HX6 : Hid (w6.heap[x]? = some (.cells #[.int .u64 0, .bool false, .int .i64 (hi (a.s + b.s)), .int .u64 (lo (a.s + b.s)), .int .i64 a.mn, .int .i64 a.mx] 36)) := by rw [HW6.out]; exact set6' HX5.out _ _ _ _ _ _
    refine hK.out _ _ ?_ (fun hHeld => ?_)
    · exact hb6
    clear hK K
    clear hHeld q0 q1 q2 q3 q4 q5 g0 g1 g2 g3 g4 g5 HW6 HX5
    refine wpAnyH_done (by kernel_rfl) ?_ _
    refine NoPanic.normal ?_
    have HB6 : Hid _ := hb6
    obtain ⟨hA6, hB6, hR6⟩ := HCA.out _ hb6
    have hR6 : w6.heap[w.heap.size + 1 + 1]? = some (.cells #[.int .u64 0, .bool false, .int .i64 0, .int .u64 0, .int .i64 0, .int .i64 0] 36) := hR6
    have z0 := c_rw hA6 0 (by simp)
    have z1 := c_rw hA6 1 (by simp)
    have z2 := c_rw hA6 2 (by simp)
    have z3 := c_rw hA6 3 (by simp)
    have z4 := c_rw hA6 4 (by simp)
    have z5 := c_rw hA6 5 (by simp)
    simp only [List.getElem_toArray, List.getElem_cons_succ, List.getElem_cons_zero] at z0 z1 z2 z3 z4 z5
    have y0 := c_rw hB6 0 (by simp)
    have y1 := c_rw hB6 1 (by simp)
    have y2 := c_rw hB6 2 (by simp)
    have y3 := c_rw hB6 3 (by simp)
    have y4 := c_rw hB6 4 (by simp)
    have y5 := c_rw hB6 5 (by simp)
    simp only [List.getElem_toArray, List.getElem_cons_succ, List.getElem_cons_zero] at y0 y1 y2 y3 y4 y5
    have o0 := c_rw HX6.out 0 (by simp)
    have o1 := c_rw HX6.out 1 (by simp)
    have o2 := c_rw HX6.out 2 (by simp)
    have o3 := c_rw HX6.out 3 (by simp)
    have o4 := c_rw HX6.out 4 (by simp)
    have o5 := c_rw HX6.out 5 (by simp)
    simp only [List.getElem_toArray, List.getElem_cons_succ, List.getElem_cons_zero] at o0 o1 o2 o3 o4 o5
    have go0 := f_rw HX6.out 0
    have go1 := f_rw HX6.out 1
    have go2 := f_rw HX6.out 2
    have go3 := f_rw HX6.out 3
    have go4 := f_rw HX6.out 4
    have go5 := f_rw HX6.out 5
    have r0 := c_rw hR6 0 (by simp)
    have r1 := c_rw hR6 1 (by simp)
    have r2 := c_rw hR6 2 (by simp)
    have r3 := c_rw hR6 3 (by simp)
    have r4 := c_rw hR6 4 (by simp)
    have r5 := c_rw hR6 5 (by simp)
    simp only [List.getElem_toArray, List.getElem_cons_succ, List.getElem_cons_zero] at r0 r1 r2 r3 r4 r5
    have gr0 := f_rw hR6 0
    have gr1 := f_rw hR6 1
    have gr2 := f_rw hR6 2
    have gr3 := f_rw hR6 3
    have gr4 := f_rw hR6 4
    have gr5 := f_rw hR6 5
    have e0 : x ≠ w.heap.size := by omega
    have d0 : w.heap.size ≠ x := by omega
    have e1 : x ≠ w.heap.size + 1 := by omega
    have d1 : w.heap.size + 1 ≠ x := by omega
    have e2 : x ≠ w.heap.size + 1 + 1 := by omega
    have d2 : w.heap.size + 1 + 1 ≠ x := by omega
    have hxn : w.heap.size ≤ x := by omega
    have HRR : Hid _ := hR6
    have HBB : Hid (Below w.heap.size w w6) := HB3.out.trans (hb6.mono HB3.out.size)
    clear hA6 hB6 hR6 hb6 HB6 hb5
    have AO : Hid _ := ao
    have BO : Hid _ := bo
    clear ao bo
    by_cases p1 : b.mn < a.mn
    · by_cases p2 : a.mx < b.mx
      · cases hao : a.o with
        | true =>
          have HAO : Hid (a.o = true) := hao
          clear hao
          have pc : a.c = 18446744073709551615 := AO.out HAO.out
          have HEQ : Hid (mrg a b = ⟨18446744073709551615, true, a.s + b.s, b.mn, b.mx⟩) := by
            unfold Hid; rw [mrg_both a b h h2]; unfold cntF ovF minF maxF
            rw [if_neg (by omega), if_pos p1, if_pos p2, decide_eq_true (by omega), HAO.out] <;> simp
          have HRT : Hid (((((w6.setCell ⟨x, 4, none⟩ (.int .i64 b.mn)).setCell ⟨x, 5, none⟩ (.int .i64 b.mx)).setCell ⟨x, 1, none⟩ (.bool true)).setCell ⟨x, 0, none⟩ (.int .u64 18446744073709551615)).heap[w.heap.size + 1 + 1]? = some (.cells #[.int .u64 0, .bool false, .int .i64 0, .int .u64 0, .int .i64 0, .int .i64 0] 36)) := by unfold Hid; rw [Go.heap_setCell_other _ _ _ _ d2, Go.heap_setCell_other _ _ _ _ d2, Go.heap_setCell_other _ _ _ _ d2, Go.heap_setCell_other _ _ _ _ d2]; exact HRR.out
          have HBT : Hid (Below w.heap.size w ((((w6.setCell ⟨x, 4, none⟩ (.int .i64 b.mn)).setCell ⟨x, 5, none⟩ (.int .i64 b.mx)).setCell ⟨x, 1, none⟩ (.bool true)).setCell ⟨x, 0, none⟩ (.int .u64 18446744073709551615))) := ((((HBB.out.setCell hxn _).setCell hxn _).setCell hxn _).setCell hxn _)
          rw [HAO.out] at z1
          clear pc
          go_wp2_with fail
          exact bodyPost_ret (res_r rfl _ _ (w.heap.size + 1 + 1) _ rfl (run_loadVar_row _ (w.heap.size + 1 + 1) _ _ _ (0, 0) _ (set6' HRT.out _ _ _ _ _ _) Tryz.underlying36 rfl (by kernel_rfl))) rfl ⟨by rw [HEQ.out], below6' HBT.out (by omega) _ _ _ _ _ _⟩
        | false =>
          have HAO : Hid (a.o = false) := hao
          clear hao
          cases hbo : b.o with
          | true =>
            have HBO : Hid (b.o = true) := hbo
            clear hbo
            have pc : b.c = 18446744073709551615 := BO.out HBO.out
            have HEQ : Hid (mrg a b = ⟨18446744073709551615, true, a.s + b.s, b.mn, b.mx⟩) := by
              unfold Hid; rw [mrg_both a b h h2]; unfold cntF ovF minF maxF
              rw [if_neg (by omega), if_pos p1, if_pos p2, decide_eq_true (by omega), HAO.out, HBO.out] <;> simp
            have HRT : Hid (((((w6.setCell ⟨x, 4, none⟩ (.int .i64 b.mn)).setCell ⟨x, 5, none⟩ (.int .i64 b.mx)).setCell ⟨x, 1, none⟩ (.bool true)).setCell ⟨x, 0, none⟩ (.int .u64 18446744073709551615)).heap[w.heap.size + 1 + 1]? = some (.cells #[.int .u64 0, .bool false, .int .i64 0, .int .u64 0, .int .i64 0, .int .i64 0] 36)) := by unfold Hid; rw [Go.heap_setCell_other _ _ _ _ d2, Go.heap_setCell_other _ _ _ _ d2, Go.heap_setCell_other _ _ _ _ d2, Go.heap_setCell_other _ _ _ _ d2]; exact HRR.out
            have HBT : Hid (Below w.heap.size w ((((w6.setCell ⟨x, 4, none⟩ (.int .i64 b.mn)).setCell ⟨x, 5, none⟩ (.int .i64 b.mx)).setCell ⟨x, 1, none⟩ (.bool true)).setCell ⟨x, 0, none⟩ (.int .u64 18446744073709551615))) := ((((HBB.out.setCell hxn _).setCell hxn _).setCell hxn _).setCell hxn _)
            rw [HAO.out] at z1
            rw [HBO.out] at y1
            clear pc
            go_wp2_with fail
            exact bodyPost_ret (res_r rfl _ _ (w.heap.size + 1 + 1) _ rfl (run_loadVar_row _ (w.heap.size + 1 + 1) _ _ _ (0, 0) _ (set6' HRT.out _ _ _ _ _ _) Tryz.underlying36 rfl (by kernel_rfl))) rfl ⟨by rw [HEQ.out], below6' HBT.out (by omega) _ _ _ _ _ _⟩
          | false =>
            have HBO : Hid (b.o = false) := hbo
            clear hbo
            by_cases p3 : 18446744073709551615 - b.c < a.c
            · have HEQ : Hid (mrg a b = ⟨18446744073709551615, true, a.s + b.s, b.mn, b.mx⟩) := by
                unfold Hid; rw [mrg_both a b h h2]; unfold cntF ovF minF maxF
                rw [if_neg (by omega), if_pos p1, if_pos p2, decide_eq_true (by omega), HAO.out, HBO.out] <;> simp
              have HRT : Hid (((((w6.setCell ⟨x, 4, none⟩ (.int .i64 b.mn)).setCell ⟨x, 5, none⟩ (.int .i64 b.mx)).setCell ⟨x, 1, none⟩ (.bool true)).setCell ⟨x, 0, none⟩ (.int .u64 18446744073709551615)).heap[w.heap.size + 1 + 1]? = some (.cells #[.int .u64 0, .bool false, .int .i64 0, .int .u64 0, .int .i64 0, .int .i64 0] 36)) := by unfold Hid; rw [Go.heap_setCell_other _ _ _ _ d2, Go.heap_setCell_other _ _ _ _ d2, Go.heap_setCell_other _ _ _ _ d2, Go.heap_setCell_other _ _ _ _ d2]; exact HRR.out
              have HBT : Hid (Below w.heap.size w ((((w6.setCell ⟨x, 4, none⟩ (.int .i64 b.mn)).setCell ⟨x, 5, none⟩ (.int .i64 b.mx)).setCell ⟨x, 1, none⟩ (.bool true)).setCell ⟨x, 0, none⟩ (.int .u64 18446744073709551615))) := ((((HBB.out.setCell hxn _).setCell hxn _).setCell hxn _).setCell hxn _)
              rw [HAO.out] at z1
              rw [HBO.out] at y1
              go_wp2_with fail
              exact bodyPost_ret (res_r rfl _ _ (w.heap.size + 1 + 1) _ rfl (run_loadVar_row _ (w.heap.size + 1 + 1) _ _ _ (0, 0) _ (set6' HRT.out _ _ _ _ _ _) Tryz.underlying36 rfl (by kernel_rfl))) rfl ⟨by rw [HEQ.out], below6' HBT.out (by omega) _ _ _ _ _ _⟩
            · have HEQ : Hid (mrg a b = ⟨a.c + b.c, false, a.s + b.s, b.mn, b.mx⟩) := by
                unfold Hid; rw [mrg_both a b h h2]; unfold cntF ovF minF maxF
                rw [if_pos (by omega), if_pos p1, if_pos p2, decide_eq_false (by omega), HAO.out, HBO.out] <;> rfl
              have HRT : Hid ((((w6.setCell ⟨x, 4, none⟩ (.int .i64 b.mn)).setCell ⟨x, 5, none⟩ (.int .i64 b.mx)).setCell ⟨x, 0, none⟩ (.int .u64 (a.c + b.c))).heap[w.heap.size + 1 + 1]? = some (.cells #[.int .u64 0, .bool false, .int .i64 0, .int .u64 0, .int .i64 0, .int .i64 0] 36)) := by unfold Hid; rw [Go.heap_setCell_other _ _ _ _ d2, Go.heap_setCell_other _ _ _ _ d2, Go.heap_setCell_other _ _ _ _ d2]; exact HRR.out
              have HBT : Hid (Below w.heap.size w (((w6.setCell ⟨x, 4, none⟩ (.int .i64 b.mn)).setCell ⟨x, 5, none⟩ (.int .i64 b.mx)).setCell ⟨x, 0, none⟩ (.int .u64 (a.c + b.c)))) := (((HBB.out.setCell hxn _).setCell hxn _).setCell hxn _)
              rw [HAO.out] at z1
              rw [HBO.out] at y1
              go_wp2_with fail
              exact bodyPost_ret (res_r rfl _ _ (w.heap.size + 1 + 1) _ rfl (run_loadVar_row _ (w.heap.size + 1 + 1) _ _ _ (0, 0) _ (set6' HRT.out _ _ _ _ _ _) Tryz.underlying36 rfl (by kernel_rfl))) rfl ⟨by rw [HEQ.out], below6' HBT.out (by omega) _ _ _ _ _ _⟩
      · cases hao : a.o with
        | true =>
          have HAO : Hid (a.o = true) := hao
          clear hao
          have pc : a.c = 18446744073709551615 := AO.out HAO.out
          have HEQ : Hid (mrg a b = ⟨18446744073709551615, true, a.s + b.s, b.mn, a.mx⟩) := by
            unfold Hid; rw [mrg_both a b h h2]; unfold cntF ovF minF maxF
            rw [if_neg (by omega), if_pos p1, if_neg p2, decide_eq_true (by omega), HAO.out] <;> simp
          have HRT : Hid ((((w6.setCell ⟨x, 4, none⟩ (.int .i64 b.mn)).setCell ⟨x, 1, none⟩ (.bool true)).setCell ⟨x, 0, none⟩ (.int .u64 18446744073709551615)).heap[w.heap.size + 1 + 1]? = some (.cells #[.int .u64 0, .bool false, .int .i64 0, .int .u64 0, .int .i64 0, .int .i64 0] 36)) := by unfold Hid; rw [Go.heap_setCell_other _ _ _ _ d2, Go.heap_setCell_other _ _ _ _ d2, Go.heap_setCell_other _ _ _ _ d2]; exact HRR.out
          have HBT : Hid (Below w.heap.size w (((w6.setCell ⟨x, 4, none⟩ (.int .i64 b.mn)).setCell ⟨x, 1, none⟩ (.bool true)).setCell ⟨x, 0, none⟩ (.int .u64 18446744073709551615))) := (((HBB.out.setCell hxn _).setCell hxn _).setCell hxn _)
          rw [HAO.out] at z1
          clear pc
          go_wp2_with fail
          exact bodyPost_ret (res_r rfl _ _ (w.heap.size + 1 + 1) _ rfl (run_loadVar_row _ (w.heap.size + 1 + 1) _ _ _ (0, 0) _ (set6' HRT.out _ _ _ _ _ _) Tryz.underlying36 rfl (by kernel_rfl))) rfl ⟨by rw [HEQ.out], below6' HBT.out (by omega) _ _ _ _ _ _⟩
        | false =>
          have HAO : Hid (a.o = false) := hao
          clear hao
          cases hbo : b.o with
          | true =>
            have HBO : Hid (b.o = true) := hbo
            clear hbo
            have pc : b.c = 18446744073709551615 := BO.out HBO.out
            have HEQ : Hid (mrg a b = ⟨18446744073709551615, true, a.s + b.s, b.mn, a.mx⟩) := by
              unfold Hid; rw [mrg_both a b h h2]; unfold cntF ovF minF maxF
              rw [if_neg (by omega), if_pos p1, if_neg p2, decide_eq_true (by omega), HAO.out, HBO.out] <;> simp
            have HRT : Hid ((((w6.setCell ⟨x, 4, none⟩ (.int .i64 b.mn)).setCell ⟨x, 1, none⟩ (.bool true)).setCell ⟨x, 0, none⟩ (.int .u64 18446744073709551615)).heap[w.heap.size + 1 + 1]? = some (.cells #[.int .u64 0, .bool false, .int .i64 0, .int .u64 0, .int .i64 0, .int .i64 0] 36)) := by unfold Hid; rw [Go.heap_setCell_other _ _ _ _ d2, Go.heap_setCell_other _ _ _ _ d2, Go.heap_setCell_other _ _ _ _ d2]; exact HRR.out
            have HBT : Hid (Below w.heap.size w (((w6.setCell ⟨x, 4, none⟩ (.int .i64 b.mn)).setCell ⟨x, 1, none⟩ (.bool true)).setCell ⟨x, 0, none⟩ (.int .u64 18446744073709551615))) := (((HBB.out.setCell hxn _).setCell hxn _).setCell hxn _)
            rw [HAO.out] at z1
            rw [HBO.out] at y1
            clear pc
            go_wp2_with fail
            exact bodyPost_ret (res_r rfl _ _ (w.heap.size + 1 + 1) _ rfl (run_loadVar_row _ (w.heap.size + 1 + 1) _ _ _ (0, 0) _ (set6' HRT.out _ _ _ _ _ _) Tryz.underlying36 rfl (by kernel_rfl))) rfl ⟨by rw [HEQ.out], below6' HBT.out (by omega) _ _ _ _ _ _⟩
          | false =>
            have HBO : Hid (b.o = false) := hbo
            clear hbo
            by_cases p3 : 18446744073709551615 - b.c < a.c
            · have HEQ : Hid (mrg a b = ⟨18446744073709551615, true, a.s + b.s, b.mn, a.mx⟩) := by
                unfold Hid; rw [mrg_both a b h h2]; unfold cntF ovF minF maxF
                rw [if_neg (by omega), if_pos p1, if_neg p2, decide_eq_true (by omega), HAO.out, HBO.out] <;> simp
              have HRT : Hid ((((w6.setCell ⟨x, 4, none⟩ (.int .i64 b.mn)).setCell ⟨x, 1, none⟩ (.bool true)).setCell ⟨x, 0, none⟩ (.int .u64 18446744073709551615)).heap[w.heap.size + 1 + 1]? = some (.cells #[.int .u64 0, .bool false, .int .i64 0, .int .u64 0, .int .i64 0, .int .i64 0] 36)) := by unfold Hid; rw [Go.heap_setCell_other _ _ _ _ d2, Go.heap_setCell_other _ _ _ _ d2, Go.heap_setCell_other _ _ _ _ d2]; exact HRR.out
              have HBT : Hid (Below w.heap.size w (((w6.setCell ⟨x, 4, none⟩ (.int .i64 b.mn)).setCell ⟨x, 1, none⟩ (.bool true)).setCell ⟨x, 0, none⟩ (.int .u64 18446744073709551615))) := (((HBB.out.setCell hxn _).setCell hxn _).setCell hxn _)
              rw [HAO.out] at z1
              rw [HBO.out] at y1
              go_wp2_with fail
              exact bodyPost_ret (res_r rfl _ _ (w.heap.size + 1 + 1) _ rfl (run_loadVar_row _ (w.heap.size + 1 + 1) _ _ _ (0, 0) _ (set6' HRT.out _ _ _ _ _ _) Tryz.underlying36 rfl (by kernel_rfl))) rfl ⟨by rw [HEQ.out], below6' HBT.out (by omega) _ _ _ _ _ _⟩
            · have HEQ : Hid (mrg a b = ⟨a.c + b.c, false, a.s + b.s, b.mn, a.mx⟩) := by
                unfold Hid; rw [mrg_both a b h h2]; unfold cntF ovF minF maxF
                rw [if_pos (by omega), if_pos p1, if_neg p2, decide_eq_false (by omega), HAO.out, HBO.out] <;> rfl
              have HRT : Hid (((w6.setCell ⟨x, 4, none⟩ (.int .i64 b.mn)).setCell ⟨x, 0, none⟩ (.int .u64 (a.c + b.c))).heap[w.heap.size + 1 + 1]? = some (.cells #[.int .u64 0, .bool false, .int .i64 0, .int .u64 0, .int .i64 0, .int .i64 0] 36)) := by unfold Hid; rw [Go.heap_setCell_other _ _ _ _ d2, Go.heap_setCell_other _ _ _ _ d2]; exact HRR.out
              have HBT : Hid (Below w.heap.size w ((w6.setCell ⟨x, 4, none⟩ (.int .i64 b.mn)).setCell ⟨x, 0, none⟩ (.int .u64 (a.c + b.c)))) := ((HBB.out.setCell hxn _).setCell hxn _)
              rw [HAO.out] at z1
              rw [HBO.out] at y1
              go_wp2_with fail
              exact bodyPost_ret (res_r rfl _ _ (w.heap.size + 1 + 1) _ rfl (run_loadVar_row _ (w.heap.size + 1 + 1) _ _ _ (0, 0) _ (set6' HRT.out _ _ _ _ _ _) Tryz.underlying36 rfl (by kernel_rfl))) rfl ⟨by rw [HEQ.out], below6' HBT.out (by omega) _ _ _ _ _ _⟩
    · by_cases p2 : a.mx < b.mx
      · cases hao : a.o with
        | true =>
          have HAO : Hid (a.o = true) := hao
          clear hao
          have pc : a.c = 18446744073709551615 := AO.out HAO.out
          have HEQ : Hid (mrg a b = ⟨18446744073709551615, true, a.s + b.s, a.mn, b.mx⟩) := by
            unfold Hid; rw [mrg_both a b h h2]; unfold cntF ovF minF maxF
            rw [if_neg (by omega), if_neg p1, if_pos p2, decide_eq_true (by omega), HAO.out] <;> simp
          have HRT : Hid ((((w6.setCell ⟨x, 5, none⟩ (.int .i64 b.mx)).setCell ⟨x, 1, none⟩ (.bool true)).setCell ⟨x, 0, none⟩ (.int .u64 18446744073709551615)).heap[w.heap.size + 1 + 1]? = some (.cells #[.int .u64 0, .bool false, .int .i64 0, .int .u64 0, .int .i64 0, .int .i64 0] 36)) := by unfold Hid; rw [Go.heap_setCell_other _ _ _ _ d2, Go.heap_setCell_other _ _ _ _ d2, Go.heap_setCell_other _ _ _ _ d2]; exact HRR.out
          have HBT : Hid (Below w.heap.size w (((w6.setCell ⟨x, 5, none⟩ (.int .i64 b.mx)).setCell ⟨x, 1, none⟩ (.bool true)).setCell ⟨x, 0, none⟩ (.int .u64 18446744073709551615))) := (((HBB.out.setCell hxn _).setCell hxn _).setCell hxn _)
          rw [HAO.out] at z1
          clear pc
          go_wp2_with fail
          exact bodyPost_ret (res_r rfl _ _ (w.heap.size + 1 + 1) _ rfl (run_loadVar_row _ (w.heap.size + 1 + 1) _ _ _ (0, 0) _ (set6' HRT.out _ _ _ _ _ _) Tryz.underlying36 rfl (by kernel_rfl))) rfl ⟨by rw [HEQ.out], below6' HBT.out (by omega) _ _ _ _ _ _⟩
        | false =>
          have HAO : Hid (a.o = false) := hao
          clear hao
          cases hbo : b.o with
          | true =>
            have HBO : Hid (b.o = true) := hbo
            clear hbo
            have pc : b.c = 18446744073709551615 := BO.out HBO.out
            have HEQ : Hid (mrg a b = ⟨18446744073709551615, true, a.s + b.s, a.mn, b.mx⟩) := by
              unfold Hid; rw [mrg_both a b h h2]; unfold cntF ovF minF maxF
              rw [if_neg (by omega), if_neg p1, if_pos p2, decide_eq_true (by omega), HAO.out, HBO.out] <;> simp
            have HRT : Hid ((((w6.setCell ⟨x, 5, none⟩ (.int .i64 b.mx)).setCell ⟨x, 1, none⟩ (.bool true)).setCell ⟨x, 0, none⟩ (.int .u64 18446744073709551615)).heap[w.heap.size + 1 + 1]? = some (.cells #[.int .u64 0, .bool false, .int .i64 0, .int .u64 0, .int .i64 0, .int .i64 0] 36)) := by unfold Hid; rw [Go.heap_setCell_other _ _ _ _ d2, Go.heap_setCell_other _ _ _ _ d2, Go.heap_setCell_other _ _ _ _ d2]; exact HRR.out
            have HBT : Hid (Below w.heap.size w (((w6.setCell ⟨x, 5, none⟩ (.int .i64 b.mx)).setCell ⟨x, 1, none⟩ (.bool true)).setCell ⟨x, 0, none⟩ (.int .u64 18446744073709551615))) := (((HBB.out.setCell hxn _).setCell hxn _).setCell hxn _)
            rw [HAO.out] at z1
            rw [HBO.out] at y1
            clear pc
            go_wp2_with fail
            exact bodyPost_ret (res_r rfl _ _ (w.heap.size + 1 + 1) _ rfl (run_loadVar_row _ (w.heap.size + 1 + 1) _ _ _ (0, 0) _ (set6' HRT.out _ _ _ _ _ _) Tryz.underlying36 rfl (by kernel_rfl))) rfl ⟨by rw [HEQ.out], below6' HBT.out (by omega) _ _ _ _ _ _⟩
          | false =>
            have HBO : Hid (b.o = false) := hbo
            clear hbo
            by_cases p3 : 18446744073709551615 - b.c < a.c
            · have HEQ : Hid (mrg a b = ⟨18446744073709551615, true, a.s + b.s, a.mn, b.mx⟩) := by
                unfold Hid; rw [mrg_both a b h h2]; unfold cntF ovF minF maxF
                rw [if_neg (by omega), if_neg p1, if_pos p2, decide_eq_true (by omega), HAO.out, HBO.out] <;> simp
              have HRT : Hid ((((w6.setCell ⟨x, 5, none⟩ (.int .i64 b.mx)).setCell ⟨x, 1, none⟩ (.bool true)).setCell ⟨x, 0, none⟩ (.int .u64 18446744073709551615)).heap[w.heap.size + 1 + 1]? = some (.cells #[.int .u64 0, .bool false, .int .i64 0, .int .u64 0, .int .i64 0, .int .i64 0] 36)) := by unfold Hid; rw [Go.heap_setCell_other _ _ _ _ d2, Go.heap_setCell_other _ _ _ _ d2, Go.heap_setCell_other _ _ _ _ d2]; exact HRR.out
              have HBT : Hid (Below w.heap.size w (((w6.setCell ⟨x, 5, none⟩ (.int .i64 b.mx)).setCell ⟨x, 1, none⟩ (.bool true)).setCell ⟨x, 0, none⟩ (.int .u64 18446744073709551615))) := (((HBB.out.setCell hxn _).setCell hxn _).setCell hxn _)
              rw [HAO.out] at z1
              rw [HBO.out] at y1
              go_wp2_with fail
              exact bodyPost_ret (res_r rfl _ _ (w.heap.size + 1 + 1) _ rfl (run_loadVar_row _ (w.heap.size + 1 + 1) _ _ _ (0, 0) _ (set6' HRT.out _ _ _ _ _ _) Tryz.underlying36 rfl (by kernel_rfl))) rfl ⟨by rw [HEQ.out], below6' HBT.out (by omega) _ _ _ _ _ _⟩
            · have HEQ : Hid (mrg a b = ⟨a.c + b.c, false, a.s + b.s, a.mn, b.mx⟩) := by
                unfold Hid; rw [mrg_both a b h h2]; unfold cntF ovF minF maxF
                rw [if_pos (by omega), if_neg p1, if_pos p2, decide_eq_false (by omega), HAO.out, HBO.out] <;> rfl
              have HRT : Hid (((w6.setCell ⟨x, 5, none⟩ (.int .i64 b.mx)).setCell ⟨x, 0, none⟩ (.int .u64 (a.c + b.c))).heap[w.heap.size + 1 + 1]? = some (.cells #[.int .u64 0, .bool false, .int .i64 0, .int .u64 0, .int .i64 0, .int .i64 0] 36)) := by unfold Hid; rw [Go.heap_setCell_other _ _ _ _ d2, Go.heap_setCell_other _ _ _ _ d2]; exact HRR.out
              have HBT : Hid (Below w.heap.size w ((w6.setCell ⟨x, 5, none⟩ (.int .i64 b.mx)).setCell ⟨x, 0, none⟩ (.int .u64 (a.c + b.c)))) := ((HBB.out.setCell hxn _).setCell hxn _)
              rw [HAO.out] at z1
              rw [HBO.out] at y1
              go_wp2_with fail
              exact bodyPost_ret (res_r rfl _ _ (w.heap.size + 1 + 1) _ rfl (run_loadVar_row _ (w.heap.size + 1 + 1) _ _ _ (0, 0) _ (set6' HRT.out _ _ _ _ _ _) Tryz.underlying36 rfl (by kernel_rfl))) rfl ⟨by rw [HEQ.out], below6' HBT.out (by omega) _ _ _ _ _ _⟩
      · cases hao : a.o with
        | true =>
          have HAO : Hid (a.o = true) := hao
          clear hao
          have pc : a.c = 18446744073709551615 := AO.out HAO.out
          have HEQ : Hid (mrg a b = ⟨18446744073709551615, true, a.s + b.s, a.mn, a.mx⟩) := by
            unfold Hid; rw [mrg_both a b h h2]; unfold cntF ovF minF maxF
            rw [if_neg (by omega), if_neg p1, if_neg p2, decide_eq_true (by omega), HAO.out] <;> simp
          have HRT : Hid (((w6.setCell ⟨x, 1, none⟩ (.bool true)).setCell ⟨x, 0, none⟩ (.int .u64 18446744073709551615)).heap[w.heap.size + 1 + 1]? = some (.cells #[.int .u64 0, .bool false, .int .i64 0, .int .u64 0, .int .i64 0, .int .i64 0] 36)) := by unfold Hid; rw [Go.heap_setCell_other _ _ _ _ d2, Go.heap_setCell_other _ _ _ _ d2]; exact HRR.out
          have HBT : Hid (Below w.heap.size w ((w6.setCell ⟨x, 1, none⟩ (.bool true)).setCell ⟨x, 0, none⟩ (.int .u64 18446744073709551615))) := ((HBB.out.setCell hxn _).setCell hxn _)
          rw [HAO.out] at z1
          clear pc
          go_wp2_with fail
          exact bodyPost_ret (res_r rfl _ _ (w.heap.size + 1 + 1) _ rfl (run_loadVar_row _ (w.heap.size + 1 + 1) _ _ _ (0, 0) _ (set6' HRT.out _ _ _ _ _ _) Tryz.underlying36 rfl (by kernel_rfl))) rfl ⟨by rw [HEQ.out], below6' HBT.out (by omega) _ _ _ _ _ _⟩
        | false =>
          have HAO : Hid (a.o = false) := hao
          clear hao
          cases hbo : b.o with
          | true =>
            have HBO : Hid (b.o = true) := hbo
            clear hbo
            have pc : b.c = 18446744073709551615 := BO.out HBO.out
            have HEQ : Hid (mrg a b = ⟨18446744073709551615, true, a.s + b.s, a.mn, a.mx⟩) := by
              unfold Hid; rw [mrg_both a b h h2]; unfold cntF ovF minF maxF
              rw [if_neg (by omega), if_neg p1, if_neg p2, decide_eq_true (by omega), HAO.out, HBO.out] <;> simp
            have HRT : Hid (((w6.setCell ⟨x, 1, none⟩ (.bool true)).setCell ⟨x, 0, none⟩ (.int .u64 18446744073709551615)).heap[w.heap.size + 1 + 1]? = some (.cells #[.int .u64 0, .bool false, .int .i64 0, .int .u64 0, .int .i64 0, .int .i64 0] 36)) := by unfold Hid; rw [Go.heap_setCell_other _ _ _ _ d2, Go.heap_setCell_other _ _ _ _ d2]; exact HRR.out
            have HBT : Hid (Below w.heap.size w ((w6.setCell ⟨x, 1, none⟩ (.bool true)).setCell ⟨x, 0, none⟩ (.int .u64 18446744073709551615))) := ((HBB.out.setCell hxn _).setCell hxn _)
            rw [HAO.out] at z1
            rw [HBO.out] at y1
            clear pc
            go_wp2_with fail
            exact bodyPost_ret (res_r rfl _ _ (w.heap.size + 1 + 1) _ rfl (run_loadVar_row _ (w.heap.size + 1 + 1) _ _ _ (0, 0) _ (set6' HRT.out _ _ _ _ _ _) Tryz.underlying36 rfl (by kernel_rfl))) rfl ⟨by rw [HEQ.out], below6' HBT.out (by omega) _ _ _ _ _ _⟩
          | false =>
            have HBO : Hid (b.o = false) := hbo
            clear hbo
            by_cases p3 : 18446744073709551615 - b.c < a.c
            · have HEQ : Hid (mrg a b = ⟨18446744073709551615, true, a.s + b.s, a.mn, a.mx⟩) := by
                unfold Hid; rw [mrg_both a b h h2]; unfold cntF ovF minF maxF
                rw [if_neg (by omega), if_neg p1, if_neg p2, decide_eq_true (by omega), HAO.out, HBO.out] <;> simp
              have HRT : Hid (((w6.setCell ⟨x, 1, none⟩ (.bool true)).setCell ⟨x, 0, none⟩ (.int .u64 18446744073709551615)).heap[w.heap.size + 1 + 1]? = some (.cells #[.int .u64 0, .bool false, .int .i64 0, .int .u64 0, .int .i64 0, .int .i64 0] 36)) := by unfold Hid; rw [Go.heap_setCell_other _ _ _ _ d2, Go.heap_setCell_other _ _ _ _ d2]; exact HRR.out
              have HBT : Hid (Below w.heap.size w ((w6.setCell ⟨x, 1, none⟩ (.bool true)).setCell ⟨x, 0, none⟩ (.int .u64 18446744073709551615))) := ((HBB.out.setCell hxn _).setCell hxn _)
              rw [HAO.out] at z1
              rw [HBO.out] at y1
              go_wp2_with fail
              exact bodyPost_ret (res_r rfl _ _ (w.heap.size + 1 + 1) _ rfl (run_loadVar_row _ (w.heap.size + 1 + 1) _ _ _ (0, 0) _ (set6' HRT.out _ _ _ _ _ _) Tryz.underlying36 rfl (by kernel_rfl))) rfl ⟨by rw [HEQ.out], below6' HBT.out (by omega) _ _ _ _ _ _⟩
            · have HEQ : Hid (mrg a b = ⟨a.c + b.c, false, a.s + b.s, a.mn, a.mx⟩) := by
                unfold Hid; rw [mrg_both a b h h2]; unfold cntF ovF minF maxF
                rw [if_pos (by omega), if_neg p1, if_neg p2, decide_eq_false (by omega), HAO.out, HBO.out] <;> rfl
              have HRT : Hid ((w6.setCell ⟨x, 0, none⟩ (.int .u64 (a.c + b.c))).heap[w.heap.size + 1 + 1]? = some (.cells #[.int .u64 0, .bool false, .int .i64 0, .int .u64 0, .int .i64 0, .int .i64 0] 36)) := by unfold Hid; rw [Go.heap_setCell_other _ _ _ _ d2]; exact HRR.out
              have HBT : Hid (Below w.heap.size w (w6.setCell ⟨x, 0, none⟩ (.int .u64 (a.c + b.c)))) := (HBB.out.setCell hxn _)
              rw [HAO.out] at z1
              rw [HBO.out] at y1
              go_wp2_with fail
              exact bodyPost_ret (res_r rfl _ _ (w.heap.size + 1 + 1) _ rfl (run_loadVar_row _ (w.heap.size + 1 + 1) _ _ _ (0, 0) _ (set6' HRT.out _ _ _ _ _ _) Tryz.underlying36 rfl (by kernel_rfl))) rfl ⟨by rw [HEQ.out], below6' HBT.out (by omega) _ _ _ _ _ _⟩
  · go_simp
    obtain ⟨w4, HW4⟩ := hid_ex (w3.alloc (.cells #[.int .u64 0, .bool false, .int .i64 0, .int .u64 0, .int .i64 0, .int .i64 0] 36)).drew
    rw [← HW4.out]
    have hb4 : Below w3.heap.size w3 w4 := by rw [HW4.out]; exact ((Below.refl w3.heap.size w3).alloc (Nat.le_refl _) _).drew
    have HX4 : Hid (w4.heap[w.heap.size + 3]? = some (.cells #[.int .u64 0, .bool false, .int .i64 0, .int .u64 0, .int .i64 0, .int .i64 0] 36)) := by rw [HW4.out, ← hz3]; exact heap_alloc_new w3 _
    obtain ⟨x, hxe⟩ : ∃ x, x = w.heap.size + 3 := ⟨_, rfl⟩
    have hx3 : w.heap.size + 3 ≤ x := by omega
    rw [← hxe] at HX4 ⊢
    refine hK.out _ _ ?_ (fun hHeld => ?_)
    · exact hb4
    clear hK K
    clear HW4 hxe
    refine wpAnyH_ready (rs := [4]) (by kernel_rfl) (by simp) ?_
    refine AllReadyH.cons (o := _) rfl (fun K hK => ?_) AllReadyH.nil
    go_simp
    refine (HAD.out _).mono ?_
    rintro e w5 ⟨rfl, hb5'⟩
    have hb5 : Below w3.heap.size w3 w5 := hb4.trans (hb5'.mono hb4.size)
    have HX5 : Hid (w5.heap[x]? = some (.cells #[.int .u64 0, .bool false, .int .i64 0, .int .u64 0, .int .i64 0, .int .i64 0] 36)) := (hb5'.block _ (Array.getElem?_eq_some_iff.1 HX4.out).1).trans HX4.out
    clear hb5'
    refine hK.out _ _ ?_ (fun hHeld => ?_)
    · exact hb5
    clear hK K
    refine wpAnyH_take (i := 9) (v := .agg #[.int .u64 0, .bool false, .int .i64 (hi (a.s + b.s)), .int .u64 (lo (a.s + b.s)), .int .i64 a.mn, .int .i64 a.mx]) rfl (by kernel_rfl) (by kernel_rfl) (by kernel_rfl) (fun _ _ _ h => h) (Or.inl ⟨by rfl, ?_⟩) (by assumption) ?_
    · (intro w1 hSw; (try dsimp only at hSw); go_simp)
    simp only [List.getElem_toArray, List.getElem_cons_succ, List.getElem_cons_zero, Act.put, List.setIfInBounds_toArray, List.set_cons_zero, List.set_cons_succ]
    clear hb4 HX4
    have q0 := c_rw HX5.out 0 (by simp)
    have q1 := c_rw HX5.out 1 (by simp)
    have q2 := c_rw HX5.out 2 (by simp)
    have q3 := c_rw HX5.out 3 (by simp)
    have q4 := c_rw HX5.out 4 (by simp)
    have q5 := c_rw HX5.out 5 (by simp)
    simp only [List.getElem_toArray, List.getElem_cons_succ, List.getElem_cons_zero] at q0 q1 q2 q3 q4 q5
    have g0 := f_rw HX5.out 0
    have g1 := f_rw HX5.out 1
    have g2 := f_rw HX5.out 2
    have g3 := f_rw HX5.out 3
    have g4 := f_rw HX5.out 4
    have g5 := f_rw HX5.out 5
    refine wpAnyH_ready (rs := [11]) (by kernel_rfl) (by simp) ?_
    refine AllReadyH.cons (o := _) rfl (fun K hK => ?_) AllReadyH.nil
    go_simp
    obtain ⟨w6, HW6⟩ := hid_ex ((((((w5.setCell ⟨x, 0, none⟩ (.int .u64 0)).setCell ⟨x, 1, none⟩ (.bool false)).setCell ⟨x, 2, none⟩ (.int .i64 (hi (a.s + b.s)))).setCell ⟨x, 3, none⟩ (.int .u64 (lo (a.s + b.s)))).setCell ⟨x, 4, none⟩ (.int .i64 a.mn)).setCell ⟨x, 5, none⟩ (.int .i64 a.mx))
    rw [← HW6.out]
    have hb6 : Below w3.heap.size w3 w6 := by rw [HW6.out]; exact below6' hb5 (by omega) _ _ _ _ _ _
    have HX6 : Hid (w6.heap[x]? = some (.cells #[.int .u64 0, .bool false, .int .i64 (hi (a.s + b.s)), .int .u64 (lo (a.s + b.s)), .int .i64 a.mn, .int .i64 a.mx] 36)) := by rw [HW6.out]; exact set6' HX5.out _ _ _ _ _ _
    refine hK.out _ _ ?_ (fun hHeld => ?_)
    · exact hb6
    clear hK K
    clear hHeld q0 q1 q2 q3 q4 q5 g0 g1 g2 g3 g4 g5 HW6 HX5
    refine wpAnyH_done (by kernel_rfl) ?_ _
    refine NoPanic.normal ?_
    have HB6 : Hid _ := hb6
    obtain ⟨hA6, hB6, hR6⟩ := HCA.out _ hb6
    have hR6 : w6.heap[w.heap.size + 1 + 1]? = some (.cells #[.int .u64 0, .bool false, .int .i64 0, .int .u64 0, .int .i64 0, .int .i64 0] 36) := hR6
    have z0 := c_rw hA6 0 (by simp)
    have z1 := c_rw hA6 1 (by simp)
    have z2 := c_rw hA6 2 (by simp)
    have z3 := c_rw hA6 3 (by simp)
    have z4 := c_rw hA6 4 (by simp)
    have z5 := c_rw hA6 5 (by simp)
    simp only [List.getElem_toArray, List.getElem_cons_succ, List.getElem_cons_zero] at z0 z1 z2 z3 z4 z5
    have y0 := c_rw hB6 0 (by simp)
    have y1 := c_rw hB6 1 (by simp)
    have y2 := c_rw hB6 2 (by simp)
    have y3 := c_rw hB6 3 (by simp)
    have y4 := c_rw hB6 4 (by simp)
    have y5 := c_rw hB6 5 (by simp)
    simp only [List.getElem_toArray, List.getElem_cons_succ, List.getElem_cons_zero] at y0 y1 y2 y3 y4 y5
    have o0 := c_rw HX6.out 0 (by simp)
    have o1 := c_rw HX6.out 1 (by simp)
    have o2 := c_rw HX6.out 2 (by simp)
    have o3 := c_rw HX6.out 3 (by simp)
    have o4 := c_rw HX6.out 4 (by simp)
    have o5 := c_rw HX6.out 5 (by simp)
    simp only [List.getElem_toArray, List.getElem_cons_succ, List.getElem_cons_zero] at o0 o1 o2 o3 o4 o5
    have go0 := f_rw HX6.out 0
    have go1 := f_rw HX6.out 1
    have go2 := f_rw HX6.out 2
    have go3 := f_rw HX6.out 3
    have go4 := f_rw HX6.out 4
    have go5 := f_rw HX6.out 5
    have r0 := c_rw hR6 0 (by simp)
    have r1 := c_rw hR6 1 (by simp)
    have r2 := c_rw hR6 2 (by simp)
    have r3 := c_rw hR6 3 (by simp)
    have r4 := c_rw hR6 4 (by simp)
    have r5 := c_rw hR6 5 (by simp)
    simp only [List.getElem_toArray, List.getElem_cons_succ, List.getElem_cons_zero] at r0 r1 r2 r3 r4 r5
    have gr0 := f_rw hR6 0
    have gr1 := f_rw hR6 1
    have gr2 := f_rw hR6 2
    have gr3 := f_rw hR6 3
    have gr4 := f_rw hR6 4
    have gr5 := f_rw hR6 5
    have e0 : x ≠ w.heap.size := by omega
    have d0 : w.heap.size ≠ x := by omega
    have e1 : x ≠ w.heap.size + 1 := by omega
    have d1 : w.heap.size + 1 ≠ x := by omega
    have e2 : x ≠ w.heap.size + 1 + 1 := by omega
    have d2 : w.heap.size + 1 + 1 ≠ x := by omega
    have hxn : w.heap.size ≤ x := by omega
    have HRR : Hid _ := hR6
    have HBB : Hid (Below w.heap.size w w6) := HB3.out.trans (hb6.mono HB3.out.size)
    clear hA6 hB6 hR6 hb6 HB6 hb5
    have AO : Hid _ := ao
    have BO : Hid _ := bo
    clear ao bo
    by_cases p1 : b.mn < a.mn
    · by_cases p2 : a.mx < b.mx
      · cases hao : a.o with
        | true =>
          have HAO : Hid (a.o = true) := hao
          clear hao
          have pc : a.c = 18446744073709551615 := AO.out HAO.out
          have HEQ : Hid (mrg a b = ⟨18446744073709551615, true, a.s + b.s, b.mn, b.mx⟩) := by
            unfold Hid; rw [mrg_both a b h h2]; unfold cntF ovF minF maxF
            rw [if_neg (by omega), if_pos p1, if_pos p2, decide_eq_true (by omega), HAO.out] <;> simp
          have HRT : Hid (((((w6.setCell ⟨x, 4, none⟩ (.int .i64 b.mn)).setCell ⟨x, 5, none⟩ (.int .i64 b.mx)).setCell ⟨x, 1, none⟩ (.bool true)).setCell ⟨x, 0, none⟩ (.int .u64 18446744073709551615)).heap[w.heap.size + 1 + 1]? = some (.cells #[.int .u64 0, .bool false, .int .i64 0, .int .u64 0, .int .i64 0, .int .i64 0] 36)) := by unfold Hid; rw [Go.heap_setCell_other _ _ _ _ d2, Go.heap_setCell_other _ _ _ _ d2, Go.heap_setCell_other _ _ _ _ d2, Go.heap_setCell_other _ _ _ _ d2]; exact HRR.out
          have HBT : Hid (Below w.heap.size w ((((w6.setCell ⟨x, 4, none⟩ (.int .i64 b.mn)).setCell ⟨x, 5, none⟩ (.int .i64 b.mx)).setCell ⟨x, 1, none⟩ (.bool true)).setCell ⟨x, 0, none⟩ (.int .u64 18446744073709551615))) := ((((HBB.out.setCell hxn _).setCell hxn _).setCell hxn _).setCell hxn _)
          rw [HAO.out] at z1
          clear pc
          go_wp2_with fail
          exact bodyPost_ret (res_r rfl _ _ (w.heap.size + 1 + 1) _ rfl (run_loadVar_row _ (w.heap.size + 1 + 1) _ _ _ (0, 0) _ (set6' HRT.out _ _ _ _ _ _) Tryz.underlying36 rfl (by kernel_rfl))) rfl ⟨by rw [HEQ.out], below6' HBT.out (by omega) _ _ _ _ _ _⟩
        | false =>
          have HAO : Hid (a.o = false) := hao
          clear hao
          cases hbo : b.o with
          | true =>
            have HBO : Hid (b.o = true) := hbo
            clear hbo
            have pc : b.c = 18446744073709551615 := BO.out HBO.out
            have HEQ : Hid (mrg a b = ⟨18446744073709551615, true, a.s + b.s, b.mn, b.mx⟩) := by
              unfold Hid; rw [mrg_both a b h h2]; unfold cntF ovF minF maxF
              rw [if_neg (by omega), if_pos p1, if_pos p2, decide_eq_true (by omega), HAO.out, HBO.out] <;> simp
            have HRT : Hid (((((w6.setCell ⟨x, 4, none⟩ (.int .i64 b.mn)).setCell ⟨x, 5, none⟩ (.int .i64 b.mx)).setCell ⟨x, 1, none⟩ (.bool true)).setCell ⟨x, 0, none⟩ (.int .u64 18446744073709551615)).heap[w.heap.size + 1 + 1]? = some (.cells #[.int .u64 0, .bool false, .int .i64 0, .int .u64 0, .int .i64 0, .int .i64 0] 36)) := by unfold Hid; rw [Go.heap_setCell_other _ _ _ _ d2, Go.heap_setCell_other _ _ _ _ d2, Go.heap_setCell_other _ _ _ _ d2, Go.heap_setCell_other _ _ _ _ d2]; exact HRR.out
            have HBT : Hid (Below w.heap.size w ((((w6.setCell ⟨x, 4, none⟩ (.int .i64 b.mn)).setCell ⟨x, 5, none⟩ (.int .i64 b.mx)).setCell ⟨x, 1, none⟩ (.bool true)).setCell ⟨x, 0, none⟩ (.int .u64 18446744073709551615))) := ((((HBB.out.setCell hxn _).setCell hxn _).setCell hxn _).setCell hxn _)
            rw [HAO.out] at z1
            rw [HBO.out] at y1
            clear pc
            go_wp2_with fail
            exact bodyPost_ret (res_r rfl _ _ (w.heap.size + 1 + 1) _ rfl (run_loadVar_row _ (w.heap.size + 1 + 1) _ _ _ (0, 0) _ (set6' HRT.out _ _ _ _ _ _) Tryz.underlying36 rfl (by kernel_rfl))) rfl ⟨by rw [HEQ.out], below6' HBT.out (by omega) _ _ _ _ _ _⟩
          | false =>
            have HBO : Hid (b.o = false) := hbo
            clear hbo
            by_cases p3 : 18446744073709551615 - b.c < a.c
            · have HEQ : Hid (mrg a b = ⟨18446744073709551615, true, a.s + b.s, b.mn, b.mx⟩) := by
                unfold Hid; rw [mrg_both a b h h2]; unfold cntF ovF minF maxF
                rw [if_neg (by omega), if_pos p1, if_pos p2, decide_eq_true (by omega), HAO.out, HBO.out] <;> simp
              have HRT : Hid (((((w6.setCell ⟨x, 4, none⟩ (.int .i64 b.mn)).setCell ⟨x, 5, none⟩ (.int .i64 b.mx)).setCell ⟨x, 1, none⟩ (.bool true)).setCell ⟨x, 0, none⟩ (.int .u64 18446744073709551615)).heap[w.heap.size + 1 + 1]? = some (.cells #[.int .u64 0, .bool false, .int .i64 0, .int .u64 0, .int .i64 0, .int .i64 0] 36)) := by unfold Hid; rw [Go.heap_setCell_other _ _ _ _ d2, Go.heap_setCell_other _ _ _ _ d2, Go.heap_setCell_other _ _ _ _ d2, Go.heap_setCell_other _ _ _ _ d2]; exact HRR.out
              have HBT : Hid (Below w.heap.size w ((((w6.setCell ⟨x, 4, none⟩ (.int .i64 b.mn)).setCell ⟨x, 5, none⟩ (.int .i64 b.mx)).setCell ⟨x, 1, none⟩ (.bool true)).setCell ⟨x, 0, none⟩ (.int .u64 18446744073709551615))) := ((((HBB.out.setCell hxn _).setCell hxn _).setCell hxn _).setCell hxn _)
              rw [HAO.out] at z1
              rw [HBO.out] at y1
              go_wp2_with fail
              exact bodyPost_ret (res_r rfl _ _ (w.heap.size + 1 + 1) _ rfl (run_loadVar_row _ (w.heap.size + 1 + 1) _ _ _ (0, 0) _ (set6' HRT.out _ _ _ _ _ _) Tryz.underlying36 rfl (by kernel_rfl))) rfl ⟨by rw [HEQ.out], below6' HBT.out (by omega) _ _ _ _ _ _⟩
            · have HEQ : Hid (mrg a b = ⟨a.c + b.c, false, a.s + b.s, b.mn, b.mx⟩) := by
                unfold Hid; rw [mrg_both a b h h2]; unfold cntF ovF minF maxF
                rw [if_pos (by omega), if_pos p1, if_pos p2, decide_eq_false (by omega), HAO.out, HBO.out] <;> rfl
              have HRT : Hid ((((w6.setCell ⟨x, 4, none⟩ (.int .i64 b.mn)).setCell ⟨x, 5, none⟩ (.int .i64 b.mx)).setCell ⟨x, 0, none⟩ (.int .u64 (a.c + b.c))).heap[w.heap.size + 1 + 1]? = some (.cells #[.int .u64 0, .bool false, .int .i64 0, .int .u64 0, .int .i64 0, .int .i64 0] 36)) := by unfold Hid; rw [Go.heap_setCell_other _ _ _ _ d2, Go.heap_setCell_other _ _ _ _ d2, Go.heap_setCell_other _ _ _ _ d2]; exact HRR.out
              have HBT : Hid (Below w.heap.size w (((w6.setCell ⟨x, 4, none⟩ (.int .i64 b.mn)).setCell ⟨x, 5, none⟩ (.int .i64 b.mx)).setCell ⟨x, 0, none⟩ (.int .u64 (a.c + b.c)))) := (((HBB.out.setCell hxn _).setCell hxn _).setCell hxn _)
              rw [HAO.out] at z1
              rw [HBO.out] at y1
              go_wp2_with fail
              exact bodyPost_ret (res_r rfl _ _ (w.heap.size + 1 + 1) _ rfl (run_loadVar_row _ (w.heap.size + 1 + 1) _ _ _ (0, 0) _ (set6' HRT.out _ _ _ _ _ _) Tryz.underlying36 rfl (by kernel_rfl))) rfl ⟨by rw [HEQ.out], below6' HBT.out (by omega) _ _ _ _ _ _⟩
      · cases hao : a.o with
        | true =>
          have HAO : Hid (a.o = true) := hao
          clear hao
          have pc : a.c = 18446744073709551615 := AO.out HAO.out
          have HEQ : Hid (mrg a b = ⟨18446744073709551615, true, a.s + b.s, b.mn, a.mx⟩) := by
            unfold Hid; rw [mrg_both a b h h2]; unfold cntF ovF minF maxF
            rw [if_neg (by omega), if_pos p1, if_neg p2, decide_eq_true (by omega), HAO.out] <;> simp
          have HRT : Hid ((((w6.setCell ⟨x, 4, none⟩ (.int .i64 b.mn)).setCell ⟨x, 1, none⟩ (.bool true)).setCell ⟨x, 0, none⟩ (.int .u64 18446744073709551615)).heap[w.heap.size + 1 + 1]? = some (.cells #[.int .u64 0, .bool false, .int .i64 0, .int .u64 0, .int .i64 0, .int .i64 0] 36)) := by unfold Hid; rw [Go.heap_setCell_other _ _ _ _ d2, Go.heap_setCell_other _ _ _ _ d2, Go.heap_setCell_other _ _ _ _ d2]; exact HRR.out
          have HBT : Hid (Below w.heap.size w (((w6.setCell ⟨x, 4, none⟩ (.int .i64 b.mn)).setCell ⟨x, 1, none⟩ (.bool true)).setCell ⟨x, 0, none⟩ (.int .u64 18446744073709551615))) := (((HBB.out.setCell hxn _).setCell hxn _).setCell hxn _)
          rw [HAO.out] at z1
          clear pc
          go_wp2_with fail
          exact bodyPost_ret (res_r rfl _ _ (w.heap.size + 1 + 1) _ rfl (run_loadVar_row _ (w.heap.size + 1 + 1) _ _ _ (0, 0) _ (set6' HRT.out _ _ _ _ _ _) Tryz.underlying36 rfl (by kernel_rfl))) rfl ⟨by rw [HEQ.out], below6' HBT.out (by omega) _ _ _ _ _ _⟩
        | false =>
          have HAO : Hid (a.o = false) := hao
          clear hao
          cases hbo : b.o with
          | true =>
            have HBO : Hid (b.o = true) := hbo
            clear hbo
            have pc : b.c = 18446744073709551615 := BO.out HBO.out
            have HEQ : Hid (mrg a b = ⟨18446744073709551615, true, a.s + b.s, b.mn, a.mx⟩) := by
              unfold Hid; rw [mrg_both a b h h2]; unfold cntF ovF minF maxF
              rw [if_neg (by omega), if_pos p1, if_neg p2, decide_eq_true (by omega), HAO.out, HBO.out] <;> simp
            have HRT : Hid ((((w6.setCell ⟨x, 4, none⟩ (.int .i64 b.mn)).setCell ⟨x, 1, none⟩ (.bool true)).setCell ⟨x, 0, none⟩ (.int .u64 18446744073709551615)).heap[w.heap.size + 1 + 1]? = some (.cells #[.int .u64 0, .bool false, .int .i64 0, .int .u64 0, .int .i64 0, .int .i64 0] 36)) := by unfold Hid; rw [Go.heap_setCell_other _ _ _ _ d2, Go.heap_setCell_other _ _ _ _ d2, Go.heap_setCell_other _ _ _ _ d2]; exact HRR.out
            have HBT : Hid (Below w.heap.size w (((w6.setCell ⟨x, 4, none⟩ (.int .i64 b.mn)).setCell ⟨x, 1, none⟩ (.bool true)).setCell ⟨x, 0, none⟩ (.int .u64 18446744073709551615))) := (((HBB.out.setCell hxn _).setCell hxn _).setCell hxn _)
            rw [HAO.out] at z1
            rw [HBO.out] at y1
            clear pc
            go_wp2_with fail
            exact bodyPost_ret (res_r rfl _ _ (w.heap.size + 1 + 1) _ rfl (run_loadVar_row _ (w.heap.size + 1 + 1) _ _ _ (0, 0) _ (set6' HRT.out _ _ _ _ _ _) Tryz.underlying36 rfl (by kernel_rfl))) rfl ⟨by rw [HEQ.out], below6' HBT.out (by omega) _ _ _ _ _ _⟩
          | false =>
            have HBO : Hid (b.o = false) := hbo
            clear hbo
            by_cases p3 : 18446744073709551615 - b.c < a.c
            · have HEQ : Hid (mrg a b = ⟨18446744073709551615, true, a.s + b.s, b.mn, a.mx⟩) := by
                unfold Hid; rw [mrg_both a b h h2]; unfold cntF ovF minF maxF
                rw [if_neg (by omega), if_pos p1, if_neg p2, decide_eq_true (by omega), HAO.out, HBO.out] <;> simp
              have HRT : Hid ((((w6.setCell ⟨x, 4, none⟩ (.int .i64 b.mn)).setCell ⟨x, 1, none⟩ (.bool true)).setCell ⟨x, 0, none⟩ (.int .u64 18446744073709551615)).heap[w.heap.size + 1 + 1]? = some (.cells #[.int .u64 0, .bool false, .int .i64 0, .int .u64 0, .int .i64 0, .int .i64 0] 36)) := by unfold Hid; rw [Go.heap_setCell_other _ _ _ _ d2, Go.heap_setCell_other _ _ _ _ d2, Go.heap_setCell_other _ _ _ _ d2]; exact HRR.out
              have HBT : Hid (Below w.heap.size w (((w6.setCell ⟨x, 4, none⟩ (.int .i64 b.mn)).setCell ⟨x, 1, none⟩ (.bool true)).setCell ⟨x, 0, none⟩ (.int .u64 18446744073709551615))) := (((HBB.out.setCell hxn _).setCell hxn _).setCell hxn _)
              rw [HAO.out] at z1
              rw [HBO.out] at y1
              go_wp2_with fail
              exact bodyPost_ret (res_r rfl _ _ (w.heap.size + 1 + 1) _ rfl (run_loadVar_row _ (w.heap.size + 1 + 1) _ _ _ (0, 0) _ (set6' HRT.out _ _ _ _ _ _) Tryz.underlying36 rfl (by kernel_rfl))) rfl ⟨by rw [HEQ.out], below6' HBT.out (by omega) _ _ _ _ _ _⟩
            · have HEQ : Hid (mrg a b = ⟨a.c + b.c, false, a.s + b.s, b.mn, a.mx⟩) := by
                unfold Hid; rw [mrg_both a b h h2]; unfold cntF ovF minF maxF
                rw [if_pos (by omega), if_pos p1, if_neg p2, decide_eq_false (by omega), HAO.out, HBO.out] <;> rfl
              have HRT : Hid (((w6.setCell ⟨x, 4, none⟩ (.int .i64 b.mn)).setCell ⟨x, 0, none⟩ (.int .u64 (a.c + b.c))).heap[w.heap.size + 1 + 1]? = some (.cells #[.int .u64 0, .bool false, .int .i64 0, .int .u64 0, .int .i64 0, .int .i64 0] 36)) := by unfold Hid; rw [Go.heap_setCell_other _ _ _ _ d2, Go.heap_setCell_other _ _ _ _ d2]; exact HRR.out
              have HBT : Hid (Below w.heap.size w ((w6.setCell ⟨x, 4, none⟩ (.int .i64 b.mn)).setCell ⟨x, 0, none⟩ (.int .u64 (a.c + b.c)))) := ((HBB.out.setCell hxn _).setCell hxn _)
              rw [HAO.out] at z1
              rw [HBO.out] at y1
              go_wp2_with fail
              exact bodyPost_ret (res_r rfl _ _ (w.heap.size + 1 + 1) _ rfl (run_loadVar_row _ (w.heap.size + 1 + 1) _ _ _ (0, 0) _ (set6' HRT.out _ _ _ _ _ _) Tryz.underlying36 rfl (by kernel_rfl))) rfl ⟨by rw [HEQ.out], below6' HBT.out (by omega) _ _ _ _ _ _⟩
    · by_cases p2 : a.mx < b.mx
      · cases hao : a.o with
        | true =>
          have HAO : Hid (a.o = true) := hao
          clear hao
          have pc : a.c = 18446744073709551615 := AO.out HAO.out
          have HEQ : Hid (mrg a b = ⟨18446744073709551615, true, a.s + b.s, a.mn, b.mx⟩) := by
            unfold Hid; rw [mrg_both a b h h2]; unfold cntF ovF minF maxF
            rw [if_neg (by omega), if_neg p1, if_pos p2, decide_eq_true (by omega), HAO.out] <;> simp
          have HRT : Hid ((((w6.setCell ⟨x, 5, none⟩ (.int .i64 b.mx)).setCell ⟨x, 1, none⟩ (.bool true)).setCell ⟨x, 0, none⟩ (.int .u64 18446744073709551615)).heap[w.heap.size + 1 + 1]? = some (.cells #[.int .u64 0, .bool false, .int .i64 0, .int .u64 0, .int .i64 0, .int .i64 0] 36)) := by unfold Hid; rw [Go.heap_setCell_other _ _ _ _ d2, Go.heap_setCell_other _ _ _ _ d2, Go.heap_setCell_other _ _ _ _ d2]; exact HRR.out
          have HBT : Hid (Below w.heap.size w (((w6.setCell ⟨x, 5, none⟩ (.int .i64 b.mx)).setCell ⟨x, 1, none⟩ (.bool true)).setCell ⟨x, 0, none⟩ (.int .u64 18446744073709551615))) := (((HBB.out.setCell hxn _).setCell hxn _).setCell hxn _)
          rw [HAO.out] at z1
          clear pc
          go_wp2_with fail
          exact bodyPost_ret (res_r rfl _ _ (w.heap.size + 1 + 1) _ rfl (run_loadVar_row _ (w.heap.size + 1 + 1) _ _ _ (0, 0) _ (set6' HRT.out _ _ _ _ _ _) Tryz.underlying36 rfl (by kernel_rfl))) rfl ⟨by rw [HEQ.out], below6' HBT.out (by omega) _ _ _ _ _ _⟩
        | false =>
          have HAO : Hid (a.o = false) := hao
          clear hao
          cases hbo : b.o with
          | true =>
            have HBO : Hid (b.o = true) := hbo
            clear hbo
            have pc : b.c = 18446744073709551615 := BO.out HBO.out
            have HEQ : Hid (mrg a b = ⟨18446744073709551615, true, a.s + b.s, a.mn, b.mx⟩) := by
              unfold Hid; rw [mrg_both a b h h2]; unfold cntF ovF minF maxF
              rw [if_neg (by omega), if_neg p1, if_pos p2, decide_eq_true (by omega), HAO.out, HBO.out] <;> simp
            have HRT : Hid ((((w6.setCell ⟨x, 5, none⟩ (.int .i64 b.mx)).setCell ⟨x, 1, none⟩ (.bool true)).setCell ⟨x, 0, none⟩ (.int .u64 18446744073709551615)).heap[w.heap.size + 1 + 1]? = some (.cells #[.int .u64 0, .bool false, .int .i64 0, .int .u64 0, .int .i64 0, .int .i64 0] 36)) := by unfold Hid; rw [Go.heap_setCell_other _ _ _ _ d2, Go.heap_setCell_other _ _ _ _ d2, Go.heap_setCell_other _ _ _ _ d2]; exact HRR.out
            have HBT : Hid (Below w.heap.size w (((w6.setCell ⟨x, 5, none⟩ (.int .i64 b.mx)).setCell ⟨x, 1, none⟩ (.bool true)).setCell ⟨x, 0, none⟩ (.int .u64 18446744073709551615))) := (((HBB.out.setCell hxn _).setCell hxn _).setCell hxn _)
            rw [HAO.out] at z1
            rw [HBO.out] at y1
            clear pc
            go_wp2_with fail
            exact bodyPost_ret (res_r rfl _ _ (w.heap.size + 1 + 1) _ rfl (run_loadVar_row _ (w.heap.size + 1 + 1) _ _ _ (0, 0) _ (set6' HRT.out _ _ _ _ _ _) Tryz.underlying36 rfl (by kernel_rfl))) rfl ⟨by rw [HEQ.out], below6' HBT.out (by omega) _ _ _ _ _ _⟩
          | false =>
            have HBO : Hid (b.o = false) := hbo
            clear hbo
            by_cases p3 : 18446744073709551615 - b.c < a.c
            · have HEQ : Hid (mrg a b = ⟨18446744073709551615, true, a.s + b.s, a.mn, b.mx⟩) := by
                unfold Hid; rw [mrg_both a b h h2]; unfold cntF ovF minF maxF
                rw [if_neg (by omega), if_neg p1, if_pos p2, decide_eq_true (by omega), HAO.out, HBO.out] <;> simp
              have HRT : Hid ((((w6.setCell ⟨x, 5, none⟩ (.int .i64 b.mx)).setCell ⟨x, 1, none⟩ (.bool true)).setCell ⟨x, 0, none⟩ (.int .u64 18446744073709551615)).heap[w.heap.size + 1 + 1]? = some (.cells #[.int .u64 0, .bool false, .int .i64 0, .int .u64 0, .int .i64 0, .int .i64 0] 36)) := by unfold Hid; rw [Go.heap_setCell_other _ _ _ _ d2, Go.heap_setCell_other _ _ _ _ d2, Go.heap_setCell_other _ _ _ _ d2]; exact HRR.out
              have HBT : Hid (Below w.heap.size w (((w6.setCell ⟨x, 5, none⟩ (.int .i64 b.mx)).setCell ⟨x, 1, none⟩ (.bool true)).setCell ⟨x, 0, none⟩ (.int .u64 18446744073709551615))) := (((HBB.out.setCell hxn _).setCell hxn _).setCell hxn _)
              rw [HAO.out] at z1
              rw [HBO.out] at y1
              go_wp2_with fail
              exact bodyPost_ret (res_r rfl _ _ (w.heap.size + 1 + 1) _ rfl (run_loadVar_row _ (w.heap.size + 1 + 1) _ _ _ (0, 0) _ (set6' HRT.out _ _ _ _ _ _) Tryz.underlying36 rfl (by kernel_rfl))) rfl ⟨by rw [HEQ.out], below6' HBT.out (by omega) _ _ _ _ _ _⟩
            · have HEQ : Hid (mrg a b = ⟨a.c + b.c, false, a.s + b.s, a.mn, b.mx⟩) := by
                unfold Hid; rw [mrg_both a b h h2]; unfold cntF ovF minF maxF
                rw [if_pos (by omega), if_neg p1, if_pos p2, decide_eq_false (by omega), HAO.out, HBO.out] <;> rfl
              have HRT : Hid (((w6.setCell ⟨x, 5, none⟩ (.int .i64 b.mx)).setCell ⟨x, 0, none⟩ (.int .u64 (a.c + b.c))).heap[w.heap.size + 1 + 1]? = some (.cells #[.int .u64 0, .bool false, .int .i64 0, .int .u64 0, .int .i64 0, .int .i64 0] 36)) := by unfold Hid; rw [Go.heap_setCell_other _ _ _ _ d2, Go.heap_setCell_other _ _ _ _ d2]; exact HRR.out
              have HBT : Hid (Below w.heap.size w ((w6.setCell ⟨x, 5, none⟩ (.int .i64 b.mx)).setCell ⟨x, 0, none⟩ (.int .u64 (a.c + b.c)))) := ((HBB.out.setCell hxn _).setCell hxn _)
              rw [HAO.out] at z1
              rw [HBO.out] at y1
              go_wp2_with fail
              exact bodyPost_ret (res_r rfl _ _ (w.heap.size + 1 + 1) _ rfl (run_loadVar_row _ (w.heap.size + 1 + 1) _ _ _ (0, 0) _ (set6' HRT.out _ _ _ _ _ _) Tryz.underlying36 rfl (by kernel_rfl))) rfl ⟨by rw [HEQ.out], below6' HBT.out (by omega) _ _ _ _ _ _⟩
      · cases hao : a.o with
        | true =>
          have HAO : Hid (a.o = true) := hao
          clear hao
          have pc : a.c = 18446744073709551615 := AO.out HAO.out
          have HEQ : Hid (mrg a b = ⟨18446744073709551615, true, a.s + b.s, a.mn, a.mx⟩) := by
            unfold Hid; rw [mrg_both a b h h2]; unfold cntF ovF minF maxF
            rw [if_neg (by omega), if_neg p1, if_neg p2, decide_eq_true (by omega), HAO.out] <;> simp
          have HRT : Hid (((w6.setCell ⟨x, 1, none⟩ (.bool true)).setCell ⟨x, 0, none⟩ (.int .u64 18446744073709551615)).heap[w.heap.size + 1 + 1]? = some (.cells #[.int .u64 0, .bool false, .int .i64 0, .int .u64 0, .int .i64 0, .int .i64 0] 36)) := by unfold Hid; rw [Go.heap_setCell_other _ _ _ _ d2, Go.heap_setCell_other _ _ _ _ d2]; exact HRR.out
          have HBT : Hid (Below w.heap.size w ((w6.setCell ⟨x, 1, none⟩ (.bool true)).setCell ⟨x, 0, none⟩ (.int .u64 18446744073709551615))) := ((HBB.out.setCell hxn _).setCell hxn _)
          rw [HAO.out] at z1
          clear pc
          go_wp2_with fail
          exact bodyPost_ret (res_r rfl _ _ (w.heap.size + 1 + 1) _ rfl (run_loadVar_row _ (w.heap.size + 1 + 1) _ _ _ (0, 0) _ (set6' HRT.out _ _ _ _ _ _) Tryz.underlying36 rfl (by kernel_rfl))) rfl ⟨by rw [HEQ.out], below6' HBT.out (by omega) _ _ _ _ _ _⟩
        | false =>
          have HAO : Hid (a.o = false) := hao
          clear hao
          cases hbo : b.o with
          | true =>
            have HBO : Hid (b.o = true) := hbo
            clear hbo
            have pc : b.c = 18446744073709551615 := BO.out HBO.out
            have HEQ : Hid (mrg a b = ⟨18446744073709551615, true, a.s + b.s, a.mn, a.mx⟩) := by
              unfold Hid; rw [mrg_both a b h h2]; unfold cntF ovF minF maxF
              rw [if_neg (by omega), if_neg p1, if_neg p2, decide_eq_true (by omega), HAO.out, HBO.out] <;> simp
            have HRT : Hid (((w6.setCell ⟨x, 1, none⟩ (.bool true)).setCell ⟨x, 0, none⟩ (.int .u64 18446744073709551615)).heap[w.heap.size + 1 + 1]? = some (.cells #[.int .u64 0, .bool false, .int .i64 0, .int .u64 0, .int .i64 0, .int .i64 0] 36)) := by unfold Hid; rw [Go.heap_setCell_other _ _ _ _ d2, Go.heap_setCell_other _ _ _ _ d2]; exact HRR.out
            have HBT : Hid (Below w.heap.size w ((w6.setCell ⟨x, 1, none⟩ (.bool true)).setCell ⟨x, 0, none⟩ (.int .u64 18446744073709551615))) := ((HBB.out.setCell hxn _).setCell hxn _)
            rw [HAO.out] at z1
            rw [HBO.out] at y1
            clear pc
            go_wp2_with fail
            exact bodyPost_ret (res_r rfl _ _ (w.heap.size + 1 + 1) _ rfl (run_loadVar_row _ (w.heap.size + 1 + 1) _ _ _ (0, 0) _ (set6' HRT.out _ _ _ _ _ _) Tryz.underlying36 rfl (by kernel_rfl))) rfl ⟨by rw [HEQ.out], below6' HBT.out (by omega) _ _ _ _ _ _⟩
          | false =>
            have HBO : Hid (b.o = false) := hbo
            clear hbo
            by_cases p3 : 18446744073709551615 - b.c < a.c
            · have HEQ : Hid (mrg a b = ⟨18446744073709551615, true, a.s + b.s, a.mn, a.mx⟩) := by
                unfold Hid; rw [mrg_both a b h h2]; unfold cntF ovF minF maxF
                rw [if_neg (by omega), if_neg p1, if_neg p2, decide_eq_true (by omega), HAO.out, HBO.out] <;> simp
              have HRT : Hid (((w6.setCell ⟨x, 1, none⟩ (.bool true)).setCell ⟨x, 0, none⟩ (.int .u64 18446744073709551615)).heap[w.heap.size + 1 + 1]? = some (.cells #[.int .u64 0, .bool false, .int .i64 0, .int .u64 0, .int .i64 0, .int .i64 0] 36)) := by unfold Hid; rw [Go.heap_setCell_other _ _ _ _ d2, Go.heap_setCell_other _ _ _ _ d2]; exact HRR.out
              have HBT : Hid (Below w.heap.size w ((w6.setCell ⟨x, 1, none⟩ (.bool true)).setCell ⟨x, 0, none⟩ (.int .u64 18446744073709551615))) := ((HBB.out.setCell hxn _).setCell hxn _)
              rw [HAO.out] at z1
              rw [HBO.out] at y1
              go_wp2_with fail
              exact bodyPost_ret (res_r rfl _ _ (w.heap.size + 1 + 1) _ rfl (run_loadVar_row _ (w.heap.size + 1 + 1) _ _ _ (0, 0) _ (set6' HRT.out _ _ _ _ _ _) Tryz.underlying36 rfl (by kernel_rfl))) rfl ⟨by rw [HEQ.out], below6' HBT.out (by omega) _ _ _ _ _ _⟩
            · have HEQ : Hid (mrg a b = ⟨a.c + b.c, false, a.s + b.s, a.mn, a.mx⟩) := by
                unfold Hid; rw [mrg_both a b h h2]; unfold cntF ovF minF maxF
                rw [if_pos (by omega), if_neg p1, if_neg p2, decide_eq_false (by omega), HAO.out, HBO.out] <;> rfl
              have HRT : Hid ((w6.setCell ⟨x, 0, none⟩ (.int .u64 (a.c + b.c))).heap[w.heap.size + 1 + 1]? = some (.cells #[.int .u64 0, .bool false, .int .i64 0, .int .u64 0, .int .i64 0, .int .i64 0] 36)) := by unfold Hid; rw [Go.heap_setCell_other _ _ _ _ d2]; exact HRR.out
              have HBT : Hid (Below w.heap.size w (w6.setCell ⟨x, 0, none⟩ (.int .u64 (a.c + b.c)))) := (HBB.out.setCell hxn _)
              rw [HAO.out] at z1
              rw [HBO.out] at y1
              go_wp2_with fail
              exact bodyPost_ret (res_r rfl _ _ (w.heap.size + 1 + 1) _ rfl (run_loadVar_row _ (w.heap.size + 1 + 1) _ _ _ (0, 0) _ (set6' HRT.out _ _ _ _ _ _) Tryz.underlying36 rfl (by kernel_rfl))) rfl ⟨by rw [HEQ.out], below6' HBT.out (by omega) _ _ _ _ _ _⟩
theorem refMerge_any (a b : Ag) (a1 : 0 ≤ a.c) (a2 : a.c < 18446744073709551616) (b1 : 0 ≤ b.c) (b2 : b.c < 18446744073709551616) (ao : a.o = true → a.c = 18446744073709551615) (bo : b.o = true → b.c = 18446744073709551615) (w : World) :
    Calls Tryz.prog 29 #[.agg #[.int .u64 a.c, .bool a.o, .int .i64 (hi a.s), .int .u64 (lo a.s), .int .i64 a.mn, .int .i64 a.mx], .agg #[.int .u64 b.c, .bool b.o, .int .i64 (hi b.s), .int .u64 (lo b.s), .int .i64 b.mn, .int .i64 b.mx]] w fun e w' => e = .returned (.agg #[.int .u64 (mrg a b).c, .bool (mrg a b).o, .int .i64 (hi (mrg a b).s), .int .u64 (lo (mrg a b).s), .int .i64 (mrg a b).mn, .int .i64 (mrg a b).mx]) ∧ Below w.heap.size w w' := by
  by_cases h : a.c = 0
  · exact refMerge_left a b h w
  · by_cases h2 : b.c = 0
    · exact refMerge_right a b h h2 w
    · exact refMerge_both a b h h2 a1 a2 b1 b2 ao bo w
end Go.Proofs.YtoenijflijfogaaGreat
