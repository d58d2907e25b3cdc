/- FL7 FL8, joined. -/
import Derived.Test.YtoenijflijfogaaGreatRC17
import Derived.Test.YtoenijflijfogaaGreatRC19
/- The contract of slices.Insert of one entry, where what stands behind is moved. -/
namespace Go.Proofs.YtoenijflijfogaaGreat
open Go.RowKit

theorem rows_shift {Z F c : List Value} {i n : Nat} (hF : F.length = n * 7) (hc : c.length = 7) (hi : i ≤ n) (hZ : (n + 1) * 7 ≤ Z.length) (hp : Z.take (n * 7) = F) :
    let r1 := Z.take ((i + 1) * 7) ++ F.drop (i * 7) ++ Z.drop ((i + 1) * 7 + (F.drop (i * 7)).length)
    let r2 := r1.take (i * 7) ++ c ++ r1.drop (i * 7 + c.length)
    r1.length = Z.length ∧ r2.length = Z.length ∧ r2.take ((n + 1) * 7) = F.take (i * 7) ++ (c ++ F.drop (i * 7)) := by
  intro r1 r2
  have l1 : r1.length = Z.length := by simp [r1]; omega
  have l2 : r2.length = Z.length := by simp only [r2, List.length_append, List.length_take, List.length_drop, l1, hc]; omega
  refine ⟨l1, l2, ?_⟩
  have e1 : r1.take (i * 7) = F.take (i * 7) := by
    simp only [r1]
    rw [List.append_assoc, List.take_append_of_le_length (by simp; omega), List.take_take, Nat.min_eq_left (by omega), ← hp, List.take_take, Nat.min_eq_left (by omega)]
  have e2 : r1.drop (i * 7 + c.length) = F.drop (i * 7) ++ Z.drop ((i + 1) * 7 + (F.drop (i * 7)).length) := by
    simp only [r1]
    rw [hc, List.append_assoc, List.drop_append_of_le_length (by simp; omega), List.drop_of_length_le (by simp; omega), List.nil_append]
  simp only [r2]
  rw [e1, e2, List.append_assoc, ← List.append_assoc c, ← List.append_assoc, List.take_append_of_le_length (by simp; omega), List.take_of_length_le (by simp; omega)]
theorem rows_grow {Z F c : List Value} {i n : Nat} (hF : F.length = n * 7) (hc : c.length = 7) (hi : i ≤ n) (hZ : (n + 1) * 7 ≤ Z.length) (hp : Z.take (i * 7) = F.take (i * 7)) :
    let r2 := Z.take (i * 7) ++ c ++ Z.drop (i * 7 + c.length)
    let r3 := r2.take ((i + 1) * 7) ++ F.drop (i * 7) ++ r2.drop ((i + 1) * 7 + (F.drop (i * 7)).length)
    r2.length = Z.length ∧ r3.length = Z.length ∧ r3.take ((n + 1) * 7) = F.take (i * 7) ++ (c ++ F.drop (i * 7)) := by
  intro r2 r3
  have l2 : r2.length = Z.length := by simp only [r2, List.length_append, List.length_take, List.length_drop, hc]; omega
  have l3 : r3.length = Z.length := by simp only [r3, List.length_append, List.length_take, List.length_drop, l2]; omega
  refine ⟨l2, l3, ?_⟩
  have e1 : r2.take ((i + 1) * 7) = F.take (i * 7) ++ c := by
    simp only [r2]
    rw [List.take_append_of_le_length (by simp; omega), List.take_of_length_le (by simp; omega), hp]
  simp only [r3]
  rw [e1, List.take_append_of_le_length (by simp; omega), List.take_of_length_le (by simp; omega), List.append_assoc]
theorem ovl_any (w : World) (vb g o lb cb : Nat) (cv cg : Array Value) (hne : vb ≠ g) (hv : w.heap[vb]? = some (.cells cv 60)) (hg : w.heap[g]? = some (.cells cg 60)) (hsz : cg.size ≠ 0) :
    (callFunc 108 #[.slice (some ⟨vb, 0, none⟩) 1 1, .slice (some ⟨g, o, none⟩) lb cb]).run Tryz.prog w = .ok (.value (.bool false)) w := by
  rw [run_callFunc_extern Tryz.func108 (by kernel_rfl) (by kernel_rfl) (by kernel_rfl) (e := Extern.SlicesOverlaps.overlaps #[25, 25] #[4]) (by kernel_rfl),
    Lib.run_overlaps_apart w 25 4 60 Tryz.underlying25 7 sizeE ⟨vb, 0, none⟩ ⟨g, o, none⟩ 1 1 lb cb hne 60 60 cv.size cg.size (by simp [World.shape?, hv]) (by simp [World.shape?, hg]) hsz (by simp [World.frozen?, hv]) (by simp [World.frozen?, hv])]
  rfl
theorem infoE7 : (Tryz.prog.info? 60).map (·.size) = some 7 := by
  obtain ⟨i0, hinf, hz0, hz1, hz2⟩ := info_parts infoEn
  rw [hinf]; simp [hz1]
theorem one_flat7 {xs : List Ev} (h : ∀ x ∈ xs, x.kv.oneCell' = true) : ∀ u ∈ xs.flatMap c7, u.oneCell' = true := by
  intro u hu
  obtain ⟨x, hx, hux⟩ := List.mem_flatMap.1 hu
  exact one7 x (h x hx) u hux
set_option maxRecDepth 100000 in
set_option maxHeartbeats 2000000 in
theorem insert_shift (g cap : Nat) (xs : List Ev) (i : Nat) (y : Ev) (w : World) (base vb : Nat) (hr : w.ownsRow base 60 7 (.slice (some ⟨g, 0, none⟩) xs.length cap) xs.length (xs.flatMap c7)) (hl : xs.length ≤ 1000000) (hi : i < xs.length) (hroom : xs.length + 1 ≤ cap) (hne : vb ≠ g)
    (hy : ∀ x ∈ xs, x.kv.oneCell' = true) (hyy : y.kv.oneCell' = true) (hv : w.heap[vb]? = some (.cells (c7 y).toArray 60)) :
    Calls Tryz.prog 83 #[.slice (some ⟨g, 0, none⟩) xs.length cap, .int .i64 (i : Int), .slice (some ⟨vb, 0, none⟩) 1 1] w (InPost w base (.slice (some ⟨g, 0, none⟩) xs.length cap) xs i y) := by
  obtain ⟨cur, hcur, hbg, hcm, hcs, htk⟩ : ∃ cur : Array Value, w.heap[g]? = some (.cells cur 60) ∧ base ≤ g ∧ cap ≤ maxLen ∧ cur.size = cap * 7 ∧ cur.toList.take (xs.length * 7) = xs.flatMap c7 := by
    rcases hr.2 with ⟨q, _⟩ | ⟨g', cap', cur, q, hb, hw, hc, hx, hs, ht⟩
    · simp at q
    · simp at q
      obtain ⟨rfl, rfl⟩ := q
      exact ⟨cur, hw, hb, hx, hs, ht⟩
  have hFl := flat7_len xs
  obtain ⟨l1, l2, hrow⟩ := rows_shift (Z := cur.toList) (F := xs.flatMap c7) (c := c7 y) (i := i) (n := xs.length) hFl rfl (by omega) (by simp; omega) htk
  have hdl : ((xs.flatMap c7).drop (i * 7)).length = (xs.length - i) * 7 := by rw [List.length_drop, hFl]; omega
  have hcp1 := run_copy_rowK w.drew 25 25 3 60 7 g ((i + 1) * 7) (xs.length + 1 - (i + 1)) (cap - (i + 1)) ⟨g, i * 7, none⟩ (xs.length + 1 - i) (cap - i) (xs.length - i) cur 60 ((xs.flatMap c7).drop (i * 7)) Tryz.underlying25 infoE7 hcur (by show min _ _ = _; omega) hdl
    (fun j u hj => by
      rw [List.getElem?_drop] at hj
      have hlt : i * 7 + j < xs.length * 7 := by
        rw [← hFl]
        exact (List.getElem?_eq_some_iff.1 hj).1
      have ea : (⟨g, i * 7, none⟩ : Addr).add j = ⟨g, i * 7 + j, none⟩ := by simp [Addr.add]
      rw [ea, Go.Joins.cell_of_block (w := w.drew) hcur]
      rw [← htk, List.getElem?_take, if_pos hlt] at hj
      simpa using hj) (by rw [hdl, hcs]; omega) (fun u hu => one_flat7 hy u (List.mem_of_mem_drop hu))
  obtain ⟨r1, Hr1⟩ := hid_ex (cur.toList.take ((i + 1) * 7) ++ (xs.flatMap c7).drop (i * 7) ++ cur.toList.drop ((i + 1) * 7 + ((xs.flatMap c7).drop (i * 7)).length))
  rw [← Hr1.out] at hcp1 l1 hrow l2
  obtain ⟨w1, HW1⟩ := hid_ex (w.drew.setRow g r1.toArray)
  have hheap1 : w1.heap[g]? = some (.cells r1.toArray 60) := by rw [HW1.out]; exact setRow_heap w.drew g cur _ _ _ hcur
  have hv1 : w1.heap[vb]? = some (.cells (c7 y).toArray 60) := by rw [HW1.out, setRow_other _ _ _ _ hne]; exact hv
  have hg1 : w.grownBy w1 (some g) := by rw [HW1.out]; exact grown_setRow (grown_drew (grown_refl w _)) (.inl rfl) _
  rw [← HW1.out] at hcp1
  have hcp2 := run_copy_rowK w1 25 25 3 60 7 g (i * 7) (xs.length + 1 - i) (cap - i) ⟨vb, 0, none⟩ 1 1 1 r1.toArray 60 (c7 y) Tryz.underlying25 infoE7 hheap1 (by show min _ _ = _; omega) rfl
    (fun j u hj => by
      have ea : (⟨vb, 0, none⟩ : Addr).add j = ⟨vb, j, none⟩ := by simp [Addr.add]; omega
      rw [ea, Go.Joins.cell_of_block hv1]
      simpa using hj) (by rw [c7_len]; simp [l1]; omega) (one7 y hyy)
  rw [List.toList_toArray] at hcp2
  obtain ⟨r2, Hr2⟩ := hid_ex (r1.take (i * 7) ++ c7 y ++ r1.drop (i * 7 + (c7 y).length))
  rw [← Hr2.out] at hcp2
  have hl2 : r2.length = cap * 7 := by rw [Hr2.out, l2]; simp [hcs]
  have hrow2 : r2.take ((xs.length + 1) * 7) = (insE xs i y).flatMap c7 := by rw [Hr2.out, insE_flat]; exact hrow
  obtain ⟨w2, HW2⟩ := hid_ex (w1.setRow g r2.toArray)
  have hheap2 : w2.heap[g]? = some (.cells r2.toArray 60) := by rw [HW2.out]; exact setRow_heap w1 g _ _ _ _ hheap1
  have hg2 : w.grownBy w2 (some g) := by rw [HW2.out]; exact grown_setRow hg1 (.inl rfl) _
  rw [← HW2.out] at hcp2
  have HEnd : Hid (InPost w base (.slice (some ⟨g, 0, none⟩) xs.length cap) xs i y (.returned (.slice (some ⟨g, 0, none⟩) (xs.length + 1) cap)) w2) := ⟨_, rfl, ⟨by rw [flat7_len, insE_len (by omega)], .inr ⟨g, cap, r2.toArray, rfl, hbg, hheap2, hroom, hcm, by simp [hl2], by simpa using hrow2⟩⟩, hg2⟩
  have hov := fun lb cb => ovl_any w vb g ((i + 1) * 7) lb cb _ cur hne hv hcur (by omega)
  unfold maxLen at hcm
  clear hr hcur hcs htk hFl l1 l2 hrow hdl Hr1 HW1 hheap1 hv1 hg1 Hr2 hl2 hrow2 HW2 hheap2 hg2 hy hyy hv hbg
  obtain ⟨n, Hn⟩ := hid_ex xs.length
  rw [← Hn.out] at hcp1 hcp2 HEnd hl hi hroom ⊢
  clear Hn
  have hs1 : ∀ W, (Instr.slice 25 (.slice (some ⟨g, 0, none⟩) n cap) (some (.int .i64 (i : Int))) none none).run Tryz.prog W = .ok (.slice (some ⟨g, i * 7, none⟩) (n - i) (cap - i)) W := fun W => by rw [esl_from _ _ _ _ (by omega), sliced_some _ _ _ _ (by omega)]
  have hs2 : ∀ W, (Instr.slice 25 (.slice (some ⟨g, 0, none⟩) n cap) none (some (.int .i64 ((n : Int) + 1))) none).run Tryz.prog W = .ok (.slice (some ⟨g, 0, none⟩) (n + 1) cap) W := fun W => by
    have := esl_upto (some ⟨g, 0, none⟩) n cap (n + 1) hroom W
    rw [sliced_some _ _ _ _ (by omega)] at this
    simpa using this
  have hs3 : ∀ W, (Instr.slice 25 (.slice (some ⟨g, 0, none⟩) (n + 1) cap) (some (.int .i64 ((i : Int) + 1))) none none).run Tryz.prog W = .ok (.slice (some ⟨g, (i + 1) * 7, none⟩) (n + 1 - (i + 1)) (cap - (i + 1))) W := fun W => by
    have := esl_from (some ⟨g, 0, none⟩) (n + 1) cap (i + 1) (by omega) W
    rw [sliced_some _ _ _ _ (by omega)] at this
    exact this
  have hs4 : ∀ W, (Instr.slice 25 (.slice (some ⟨g, 0, none⟩) (n + 1) cap) (some (.int .i64 (i : Int))) none none).run Tryz.prog W = .ok (.slice (some ⟨g, i * 7, none⟩) (n + 1 - i) (cap - i)) W := fun W => by rw [esl_from _ _ _ _ (by omega), sliced_some _ _ _ _ (by omega)]
  obtain ⟨d1, Hd1⟩ := hid_ex (n + 1 - (i + 1))
  obtain ⟨d2, Hd2⟩ := hid_ex (n + 1 - i)
  obtain ⟨e1, He1⟩ := hid_ex (cap - (i + 1))
  obtain ⟨e2, He2⟩ := hid_ex (cap - i)
  obtain ⟨d3, Hd3⟩ := hid_ex (n - i)
  obtain ⟨o1, Ho1⟩ := hid_ex ((i + 1) * 7)
  obtain ⟨o2, Ho2⟩ := hid_ex (i * 7)
  rw [← Hd3.out, ← He2.out, ← Ho2.out] at hs1
  rw [← Hd1.out, ← He1.out, ← Ho1.out] at hs3
  rw [← Hd2.out, ← He2.out, ← Ho2.out] at hs4
  rw [← Hd1.out, ← Hd2.out, ← He1.out, ← He2.out, ← Ho1.out, ← Ho2.out, ← Hd3.out] at hcp1
  rw [← Hd2.out, ← He2.out, ← Ho2.out] at hcp2
  rw [← Ho1.out] at hov
  clear Hd1 Hd2 He1 He2 Hd3 Ho1 Ho2
  go_enter Tryz.func83, Tryz.ntmps83
  go_wp2_with (simp only [hov])
  refine wp_region_noPanic ?_
  refine wp_region_held_drew (S := (fun _ => True)) (by kernel_rfl) ?_ (fun hHeld => ?_)
  · trivial
  refine wpAnyH_take (i := 0) (v := .slice (some ⟨g, 0, none⟩) (n + 1) cap) rfl (by kernel_rfl) (by kernel_rfl) (by kernel_rfl) (fun _ _ _ h => h) (Or.inl ⟨by rfl, ?_⟩) (by assumption) ?_
  · (intro w1 hSw; (try dsimp only at hSw); go_simp)
  simp only [List.getElem_toArray, List.getElem_cons_zero, Act.put, List.setIfInBounds_toArray, List.set_cons_zero, List.set_cons_succ]
  refine wpAnyH_take (i := 1) (v := .int .i64 (i : Int)) rfl (by kernel_rfl) (by kernel_rfl) (by kernel_rfl) (fun _ _ _ h => h) (Or.inl ⟨by rfl, ?_⟩) (by assumption) ?_
  · (intro w1 hSw; (try dsimp only at hSw); go_simp)
  simp only [List.getElem_toArray, List.getElem_cons_succ, List.getElem_cons_zero, Act.put, List.setIfInBounds_toArray, List.set_cons_zero, List.set_cons_succ]
  refine wpAnyH_take (i := 2) (v := .int .i64 1) rfl (by kernel_rfl) (by kernel_rfl) (by kernel_rfl) (fun _ _ _ h => h) (Or.inl ⟨by rfl, ?_⟩) (by assumption) ?_
  · (intro w1 hSw; (try dsimp only at hSw); go_simp)
  simp only [List.getElem_toArray, List.getElem_cons_succ, List.getElem_cons_zero, Act.put, List.setIfInBounds_toArray, List.set_cons_zero, List.set_cons_succ]
  refine wpAnyH_take (i := 3) (v := .int .i64 ((i : Int) + 1)) rfl (by kernel_rfl) (by kernel_rfl) (by kernel_rfl) (fun _ _ _ h => h) (Or.inl ⟨by rfl, ?_⟩) (by assumption) ?_
  · (intro w1 hSw; (try dsimp only at hSw); go_simp; (rw [IntKind.wrap_i64]; omega))
  simp only [List.getElem_toArray, List.getElem_cons_succ, List.getElem_cons_zero, Act.put, List.setIfInBounds_toArray, List.set_cons_zero, List.set_cons_succ]
  refine wpAnyH_take (i := 4) (v := .slice (some ⟨g, o1, none⟩) d1 e1) rfl (by kernel_rfl) (by kernel_rfl) (by kernel_rfl) (fun _ _ _ h => h) (Or.inl ⟨by rfl, ?_⟩) (by assumption) ?_
  · (intro w1 hSw; (try dsimp only at hSw); go_simp)
  simp only [List.getElem_toArray, List.getElem_cons_succ, List.getElem_cons_zero, Act.put, List.setIfInBounds_toArray, List.set_cons_zero, List.set_cons_succ]
  refine wpAnyH_take (i := 5) (v := .slice (some ⟨g, 0, none⟩) (n + 1) cap) rfl (by kernel_rfl) (by kernel_rfl) (by kernel_rfl) (fun _ _ _ h => h) (Or.inl ⟨by rfl, ?_⟩) (by assumption) ?_
  · (intro w1 hSw; (try dsimp only at hSw); go_simp)
  simp only [List.getElem_toArray, List.getElem_cons_succ, List.getElem_cons_zero, Act.put, List.setIfInBounds_toArray, List.set_cons_zero, List.set_cons_succ]
  refine wpAnyH_take (i := 6) (v := .int .i64 (i : Int)) rfl (by kernel_rfl) (by kernel_rfl) (by kernel_rfl) (fun _ _ _ h => h) (Or.inl ⟨by rfl, ?_⟩) (by assumption) ?_
  · (intro w1 hSw; (try dsimp only at hSw); go_simp)
  simp only [List.getElem_toArray, List.getElem_cons_succ, List.getElem_cons_zero, Act.put, List.setIfInBounds_toArray, List.set_cons_zero, List.set_cons_succ]
  refine wpAnyH_take (i := 7) (v := .slice (some ⟨g, o2, none⟩) d2 e2) rfl (by kernel_rfl) (by kernel_rfl) (by kernel_rfl) (fun _ _ _ h => h) (Or.inl ⟨by rfl, ?_⟩) (by assumption) ?_
  · (intro w1 hSw; (try dsimp only at hSw); go_simp)
  simp only [List.getElem_toArray, List.getElem_cons_succ, List.getElem_cons_zero, Act.put, List.setIfInBounds_toArray, List.set_cons_zero, List.set_cons_succ]
  refine wpAnyH_ready (rs := [8]) (by kernel_rfl) (by simp) ?_
  refine AllReadyH.cons (o := _) rfl (fun K hK => ?_) AllReadyH.nil
  refine wp_copy_run _ _ _ _ _ rfl rfl _ _ _ rfl rfl hcp1 ?_
  refine hK.out _ _ ?_ (fun hHeld => ?_)
  · trivial
  clear hK K
  clear hHeld
  refine wpAnyH_done (by kernel_rfl) ?_ _
  refine NoPanic.normal ?_
  go_wp2_with (at_builtin; refine wpList_copy_run rfl _ _ _ _ _ rfl rfl _ _ _ rfl rfl hcp2 ?_)
  go_ret
  exact HEnd.out
theorem zero_cells (k : Nat) : (Builtin.zeroCells (Value.agg #[.slice none 0 0, .int .u64 0, .bool false, .int .i64 0, .int .u64 0, .int .i64 0, .int .i64 0]).cells k).size = k * 7 := by
  simp [Builtin.zeroCells, Value.cells]
set_option maxRecDepth 100000 in
set_option maxHeartbeats 2000000 in
theorem insert_grow (g cap : Nat) (xs : List Ev) (i : Nat) (y : Ev) (w : World) (base vb : Nat) (hr : w.ownsRow base 60 7 (.slice (some ⟨g, 0, none⟩) xs.length cap) xs.length (xs.flatMap c7)) (hl : xs.length ≤ 1000000) (hi : i < xs.length) (hroom : cap < xs.length + 1) (hbs : base ≤ w.heap.size)
    (hy : ∀ x ∈ xs, x.kv.oneCell' = true) (hyy : y.kv.oneCell' = true) (hv : w.heap[vb]? = some (.cells (c7 y).toArray 60)) :
    Calls Tryz.prog 83 #[.slice (some ⟨g, 0, none⟩) xs.length cap, .int .i64 (i : Int), .slice (some ⟨vb, 0, none⟩) 1 1] w (InPost w base (.slice (some ⟨g, 0, none⟩) xs.length cap) xs i y) := by
  obtain ⟨cur, hcur, hbg, hcap, hcm, hcs, htk⟩ : ∃ cur : Array Value, w.heap[g]? = some (.cells cur 60) ∧ base ≤ g ∧ xs.length ≤ cap ∧ cap ≤ maxLen ∧ cur.size = cap * 7 ∧ cur.toList.take (xs.length * 7) = xs.flatMap c7 := by
    rcases hr.2 with ⟨q, _⟩ | ⟨g', cap', cur, q, hb, hw, hc, hx, hs, ht⟩
    · simp at q
    · simp at q
      obtain ⟨rfl, rfl⟩ := q
      exact ⟨cur, hw, hb, hc, hx, hs, ht⟩
  obtain ⟨i0, hinf, hz0, hz1, hz2⟩ := info_parts infoEn
  have hFl := flat7_len xs
  have hgl : g < w.heap.size := (Array.getElem?_eq_some_iff.1 hcur).1
  have hvl : vb < w.heap.size := (Array.getElem?_eq_some_iff.1 hv).1
  have hsrc : ∀ (W : World), W.heap[g]? = w.heap[g]? → ∀ (o : Nat) j u, ((xs.flatMap c7).drop o)[j]? = some u → W.cell? ((⟨g, o, none⟩ : Addr).add j) = some u := fun W hW o j u hj => by
    rw [List.getElem?_drop] at hj
    have hlt : o + j < xs.length * 7 := by
      rw [← hFl]
      exact (List.getElem?_eq_some_iff.1 hj).1
    have ea : (⟨g, o, none⟩ : Addr).add j = ⟨g, o + j, none⟩ := by simp [Addr.add]
    rw [ea, Go.Joins.cell_of_block (hW.trans hcur)]
    rw [← htk, List.getElem?_take, if_pos hlt] at hj
    simpa using hj
  have hold : (Builtin.firstCells i0.size i (.slice (some ⟨g, 0, none⟩) i cap)).run Tryz.prog w.drew = .ok ((xs.flatMap c7).take (i * 7)).toArray w.drew := by
    rw [hz1]
    refine run_firstCells_some w.drew 7 i ⟨g, 0, none⟩ i cap _ (by rw [List.length_take, hFl]; omega) (fun j u hj => ?_)
    rw [List.getElem?_take] at hj
    split at hj
    · exact hsrc w.drew rfl 0 j u (by simpa using hj)
    · cases hj
  have hrz := Lib.run_append_grow_zeros w 25 3 25 60 i0 _ .i64 .i64 Tryz.underlying25 Tryz.underlying3 hinf hz0 (some ⟨g, 0, none⟩) i cap _ hold (xs.length + 1 - i) (by omega) (by rw [hz1]; omega) (by omega) (by omega) (by rw [hz2]; omega) (by rw [hz2, show i + (xs.length + 1 - i) = xs.length + 1 by omega]; exact growslice_fits hroom (by omega))
  rw [show i + (xs.length + 1 - i) = xs.length + 1 by omega] at hrz
  have hGn : xs.length + 1 ≤ grownCap w (xs.length + 1) cap 60 := grownCap_ge w _ _ _
  have hG63 : grownCap w (xs.length + 1) cap 60 ≤ maxLen := grownCap_le_maxLen w _ _ _ (by unfold maxLen; omega)
  obtain ⟨G, HG⟩ := hid_ex (grownCap w (xs.length + 1) cap 60)
  rw [← HG.out] at hrz hGn hG63
  obtain ⟨Z, HZ⟩ : ∃ Z : List Value, Hid (Z.toArray = ((xs.flatMap c7).take (i * 7)).toArray ++ Builtin.zeroCells (Value.agg #[.slice none 0 0, .int .u64 0, .bool false, .int .i64 0, .int .u64 0, .int .i64 0, .int .i64 0]).cells (xs.length + 1 - i) ++ Builtin.zeroCells (Value.agg #[.slice none 0 0, .int .u64 0, .bool false, .int .i64 0, .int .u64 0, .int .i64 0, .int .i64 0]).cells (G - (xs.length + 1))) := ⟨_, Array.toArray_toList⟩
  rw [← HZ.out] at hrz
  have hZl : Z.length = G * 7 := by
    have := congrArg Array.size HZ.out
    rw [Array.size_append, Array.size_append, zero_cells, zero_cells] at this
    simp only [List.size_toArray, List.length_take, hFl] at this
    omega
  have hZt : Z.take (i * 7) = (xs.flatMap c7).take (i * 7) := by
    have := congrArg Array.toList HZ.out
    simp only [Array.toList_append] at this
    rw [this, List.append_assoc, List.take_append_of_le_length (by rw [List.length_take, hFl]; omega), List.take_take, Nat.min_self]
  obtain ⟨l2, l3, hrow⟩ := rows_grow (Z := Z) (F := xs.flatMap c7) (c := c7 y) (i := i) (n := xs.length) hFl rfl (by omega) (by omega) hZt
  obtain ⟨h, Hh⟩ := hid_ex w.heap.size
  rw [← Hh.out] at hrz
  obtain ⟨w1, HW1⟩ := hid_ex (w.drew.alloc (.cells Z.toArray 60))
  rw [← HW1.out] at hrz
  have hheap1 : w1.heap[h]? = some (.cells Z.toArray 60) := by rw [HW1.out, Hh.out]; exact heap_alloc_new _ _
  have hk1 : ∀ k, k < w.heap.size → w1.heap[k]? = w.heap[k]? := fun k hk => by rw [HW1.out]; exact Below.heap_alloc w.drew _ _ hk
  have hg1 : w.grownBy w1 (some g) := by rw [HW1.out]; exact ⟨rfl, rfl, rfl, by simp, fun k hk _ => Below.heap_alloc w.drew _ _ hk⟩
  have hcp2 := run_copy_rowK w1 25 25 3 60 7 h (i * 7) (xs.length + 1 - i) (G - i) ⟨vb, 0, none⟩ 1 1 1 Z.toArray 60 (c7 y) Tryz.underlying25 infoE7 hheap1 (by show min _ _ = _; omega) rfl
    (fun j u hj => by
      have ea : (⟨vb, 0, none⟩ : Addr).add j = ⟨vb, j, none⟩ := by simp [Addr.add]; omega
      rw [ea, Go.Joins.cell_of_block ((hk1 vb hvl).trans hv)]
      simpa using hj) (by rw [c7_len]; simp [hZl]; omega) (one7 y hyy)
  rw [List.toList_toArray] at hcp2
  obtain ⟨r2, Hr2⟩ := hid_ex (Z.take (i * 7) ++ c7 y ++ Z.drop (i * 7 + (c7 y).length))
  rw [← Hr2.out] at hcp2 l2 l3 hrow
  obtain ⟨w2, HW2⟩ := hid_ex (w1.setRow h r2.toArray)
  have hheap2 : w2.heap[h]? = some (.cells r2.toArray 60) := by rw [HW2.out]; exact setRow_heap w1 h _ _ _ _ hheap1
  have hg2 : w.grownBy w2 (some g) := by rw [HW2.out]; exact grown_setRow hg1 (.inr (by rw [Hh.out]; exact Nat.le_refl _)) _
  have hk2 : w2.heap[g]? = w.heap[g]? := by rw [HW2.out, setRow_other _ _ _ _ (by rw [Hh.out]; omega)]; exact hk1 g hgl
  rw [← HW2.out] at hcp2
  have hdl : ((xs.flatMap c7).drop (i * 7)).length = (xs.length - i) * 7 := by rw [List.length_drop, hFl]; omega
  have hcp3 := run_copy_rowK w2.drew 25 25 3 60 7 h ((i + 1) * 7) (xs.length + 1 - (i + 1)) (G - (i + 1)) ⟨g, i * 7, none⟩ (xs.length - i) (cap - i) (xs.length - i) r2.toArray 60 ((xs.flatMap c7).drop (i * 7)) Tryz.underlying25 infoE7 hheap2 (by show min _ _ = _; omega) hdl (hsrc w2.drew hk2 (i * 7)) (by rw [hdl]; simp [l2]; omega) (fun u hu => one_flat7 hy u (List.mem_of_mem_drop hu))
  rw [List.toList_toArray] at hcp3
  obtain ⟨r3, Hr3⟩ := hid_ex (r2.take ((i + 1) * 7) ++ (xs.flatMap c7).drop (i * 7) ++ r2.drop ((i + 1) * 7 + ((xs.flatMap c7).drop (i * 7)).length))
  rw [← Hr3.out] at hcp3 l3 hrow
  obtain ⟨w3, HW3⟩ := hid_ex (w2.drew.setRow h r3.toArray)
  have hheap3 : w3.heap[h]? = some (.cells r3.toArray 60) := by rw [HW3.out]; exact setRow_heap w2.drew h _ _ _ _ hheap2
  have hg3 : w.grownBy w3 (some g) := by rw [HW3.out]; exact grown_setRow (grown_drew hg2) (.inr (by rw [Hh.out]; exact Nat.le_refl _)) _
  rw [← HW3.out] at hcp3
  have HEnd : Hid (InPost w base (.slice (some ⟨g, 0, none⟩) xs.length cap) xs i y (.returned (.slice (some ⟨h, 0, none⟩) (xs.length + 1) G)) w3) := ⟨_, rfl, ⟨by rw [flat7_len, insE_len (by omega)], .inr ⟨h, G, r3.toArray, rfl, by rw [Hh.out]; exact hbs, hheap3, hGn, hG63, by simp [l3, hZl], by rw [insE_flat]; simpa using hrow⟩⟩, hg3⟩
  unfold maxLen at hcm hG63
  clear hr hcur hcs htk hFl l2 l3 hrow hdl HW1 hheap1 hg1 Hr2 HW2 hheap2 hg2 hk2 hk1 Hr3 HW3 hheap3 hg3 hy hyy hv hbg hZl hZt HZ hold hsrc hinf hz0 hz1 hz2 HG Hh
  obtain ⟨n, Hn⟩ := hid_ex xs.length
  rw [← Hn.out] at hcp2 hcp3 HEnd hl hi hroom hrz hGn hcap ⊢
  clear Hn
  have hkk : ((n + 1 - i : Nat) : Int) = (n : Int) + 1 - (i : Int) := by omega
  rw [hkk] at hrz
  clear hkk
  have hs1 : ∀ W, (Instr.slice 25 (.slice (some ⟨g, 0, none⟩) n cap) (some (.int .i64 (i : Int))) none none).run Tryz.prog W = .ok (.slice (some ⟨g, i * 7, none⟩) (n - i) (cap - i)) W := fun W => by rw [esl_from _ _ _ _ (by omega), sliced_some _ _ _ _ (by omega)]
  have hs2 : ∀ W, (Instr.slice 25 (.slice (some ⟨g, 0, none⟩) n cap) none (some (.int .i64 (i : Int))) none).run Tryz.prog W = .ok (.slice (some ⟨g, 0, none⟩) i cap) W := fun W => by
    have := esl_upto (some ⟨g, 0, none⟩) n cap i (by omega) W
    rw [sliced_some _ _ _ _ (by omega)] at this
    simpa using this
  have hs3 : ∀ W, (Instr.slice 25 (.slice (some ⟨h, 0, none⟩) (n + 1) G) (some (.int .i64 ((i : Int) + 1))) none none).run Tryz.prog W = .ok (.slice (some ⟨h, (i + 1) * 7, none⟩) (n + 1 - (i + 1)) (G - (i + 1))) W := fun W => by
    have := esl_from (some ⟨h, 0, none⟩) (n + 1) G (i + 1) (by omega) W
    rw [sliced_some _ _ _ _ (by omega)] at this
    exact this
  have hs4 : ∀ W, (Instr.slice 25 (.slice (some ⟨h, 0, none⟩) (n + 1) G) (some (.int .i64 (i : Int))) none none).run Tryz.prog W = .ok (.slice (some ⟨h, i * 7, none⟩) (n + 1 - i) (G - i)) W := fun W => by rw [esl_from _ _ _ _ (by omega), sliced_some _ _ _ _ (by omega)]
  obtain ⟨d1, Hd1⟩ := hid_ex (n + 1 - (i + 1))
  obtain ⟨d2, Hd2⟩ := hid_ex (n + 1 - i)
  obtain ⟨e1, He1⟩ := hid_ex (G - (i + 1))
  obtain ⟨e2, He2⟩ := hid_ex (G - i)
  obtain ⟨e3, He3⟩ := hid_ex (cap - i)
  obtain ⟨d3, Hd3⟩ := hid_ex (n - i)
  obtain ⟨o1, Ho1⟩ := hid_ex ((i + 1) * 7)
  obtain ⟨o2, Ho2⟩ := hid_ex (i * 7)
  rw [← Hd3.out, ← He3.out, ← Ho2.out] at hs1
  rw [← Hd1.out, ← He1.out, ← Ho1.out] at hs3
  rw [← Hd2.out, ← He2.out, ← Ho2.out] at hs4
  rw [← Hd2.out, ← He2.out, ← Ho2.out] at hcp2
  rw [← Hd1.out, ← Hd3.out, ← He1.out, ← He3.out, ← Ho1.out, ← Ho2.out] at hcp3
  clear Hd1 Hd2 He1 He2 He3 Hd3 Ho1 Ho2
  go_enter Tryz.func83, Tryz.ntmps83
  go_wp2_with (at_builtin; first | refine wpList_appZ_run rfl _ _ _ _ _ rfl rfl _ _ _ rfl rfl hrz ?_ | refine wpList_copy_run rfl _ _ _ _ _ rfl rfl _ _ _ rfl rfl hcp2 ?_)
  refine wp_region_noPanic ?_
  refine wp_region_held_drew (S := (fun _ => True)) (by kernel_rfl) ?_ (fun hHeld => ?_)
  · trivial
  refine wpAnyH_take (i := 0) (v := .slice (some ⟨h, 0, none⟩) (n + 1) G) rfl (by kernel_rfl) (by kernel_rfl) (by kernel_rfl) (fun _ _ _ h => h) (Or.inl ⟨by rfl, ?_⟩) (by assumption) ?_
  · (intro w1 hSw; (try dsimp only at hSw); go_simp)
  simp only [List.getElem_toArray, List.getElem_cons_zero, Act.put, List.setIfInBounds_toArray, List.set_cons_zero, List.set_cons_succ]
  refine wpAnyH_take (i := 1) (v := .int .i64 (i : Int)) rfl (by kernel_rfl) (by kernel_rfl) (by kernel_rfl) (fun _ _ _ h => h) (Or.inl ⟨by rfl, ?_⟩) (by assumption) ?_
  · (intro w1 hSw; (try dsimp only at hSw); go_simp)
  simp only [List.getElem_toArray, List.getElem_cons_succ, List.getElem_cons_zero, Act.put, List.setIfInBounds_toArray, List.set_cons_zero, List.set_cons_succ]
  refine wpAnyH_take (i := 2) (v := .int .i64 1) rfl (by kernel_rfl) (by kernel_rfl) (by kernel_rfl) (fun _ _ _ h => h) (Or.inl ⟨by rfl, ?_⟩) (by assumption) ?_
  · (intro w1 hSw; (try dsimp only at hSw); go_simp)
  simp only [List.getElem_toArray, List.getElem_cons_succ, List.getElem_cons_zero, Act.put, List.setIfInBounds_toArray, List.set_cons_zero, List.set_cons_succ]
  refine wpAnyH_take (i := 3) (v := .int .i64 ((i : Int) + 1)) rfl (by kernel_rfl) (by kernel_rfl) (by kernel_rfl) (fun _ _ _ h => h) (Or.inl ⟨by rfl, ?_⟩) (by assumption) ?_
  · (intro w1 hSw; (try dsimp only at hSw); go_simp; (rw [IntKind.wrap_i64]; omega))
  simp only [List.getElem_toArray, List.getElem_cons_succ, List.getElem_cons_zero, Act.put, List.setIfInBounds_toArray, List.set_cons_zero, List.set_cons_succ]
  refine wpAnyH_take (i := 4) (v := .slice (some ⟨h, o1, none⟩) d1 e1) rfl (by kernel_rfl) (by kernel_rfl) (by kernel_rfl) (fun _ _ _ h => h) (Or.inl ⟨by rfl, ?_⟩) (by assumption) ?_
  · (intro w1 hSw; (try dsimp only at hSw); go_simp)
  simp only [List.getElem_toArray, List.getElem_cons_succ, List.getElem_cons_zero, Act.put, List.setIfInBounds_toArray, List.set_cons_zero, List.set_cons_succ]
  refine wpAnyH_take (i := 5) (v := .slice (some ⟨g, 0, none⟩) n cap) rfl (by kernel_rfl) (by kernel_rfl) (by kernel_rfl) (fun _ _ _ h => h) (Or.inl ⟨by rfl, ?_⟩) (by assumption) ?_
  · (intro w1 hSw; (try dsimp only at hSw); go_simp)
  simp only [List.getElem_toArray, List.getElem_cons_succ, List.getElem_cons_zero, Act.put, List.setIfInBounds_toArray, List.set_cons_zero, List.set_cons_succ]
  refine wpAnyH_take (i := 6) (v := .int .i64 (i : Int)) rfl (by kernel_rfl) (by kernel_rfl) (by kernel_rfl) (fun _ _ _ h => h) (Or.inl ⟨by rfl, ?_⟩) (by assumption) ?_
  · (intro w1 hSw; (try dsimp only at hSw); go_simp)
  simp only [List.getElem_toArray, List.getElem_cons_succ, List.getElem_cons_zero, Act.put, List.setIfInBounds_toArray, List.set_cons_zero, List.set_cons_succ]
  refine wpAnyH_take (i := 7) (v := .slice (some ⟨g, o2, none⟩) d3 e3) rfl (by kernel_rfl) (by kernel_rfl) (by kernel_rfl) (fun _ _ _ h => h) (Or.inl ⟨by rfl, ?_⟩) (by assumption) ?_
  · (intro w1 hSw; (try dsimp only at hSw); go_simp)
  simp only [List.getElem_toArray, List.getElem_cons_succ, List.getElem_cons_zero, Act.put, List.setIfInBounds_toArray, List.set_cons_zero, List.set_cons_succ]
  refine wpAnyH_ready (rs := [8]) (by kernel_rfl) (by simp) ?_
  refine AllReadyH.cons (o := _) rfl (fun K hK => ?_) AllReadyH.nil
  refine wp_copy_run _ _ _ _ _ rfl rfl _ _ _ rfl rfl hcp3 ?_
  refine hK.out _ _ ?_ (fun hHeld => ?_)
  · trivial
  clear hK K
  clear hHeld
  refine wpAnyH_done (by kernel_rfl) ?_ _
  refine NoPanic.normal ?_
  go_wp2_with fail
  go_ret
  exact HEnd.out
theorem insert_any (v : Value) (xs : List Ev) (i : Nat) (y : Ev) (w : World) (base vb : Nat) (hr : w.ownsRow base 60 7 v xs.length (xs.flatMap c7)) (hl : xs.length ≤ 1000000) (hi : i ≤ xs.length) (hbs : base ≤ w.heap.size) (hne : v.ownBlock ≠ some vb)
    (hy : ∀ x ∈ xs, x.kv.oneCell' = true) (hyy : y.kv.oneCell' = true) (hv : w.heap[vb]? = some (.cells (c7 y).toArray 60)) :
    Calls Tryz.prog 83 #[v, .int .i64 (i : Int), .slice (some ⟨vb, 0, none⟩) 1 1] w (InPost w base v xs i y) := by
  rcases Nat.lt_or_ge i xs.length with h | h
  · rcases hr.2 with ⟨_, q⟩ | ⟨g, cap, cur, rfl, _, _, hc, _⟩
    · omega
    · rcases Nat.lt_or_ge cap (xs.length + 1) with h2 | h2
      · exact insert_grow g cap xs i y w base vb hr hl h h2 hbs hy hyy hv
      · exact insert_shift g cap xs i y w base vb hr hl h h2 (fun e => hne (by rw [e]; rfl)) hy hyy hv
  · obtain rfl : i = xs.length := by omega
    exact insert_end v xs y w base vb hr hl hbs hyy hv
end Go.Proofs.YtoenijflijfogaaGreat

/- What the loop of fold.folded keeps. -/
namespace Go.Proofs.YtoenijflijfogaaGreat
open Go.RowKit

theorem ins_at {x : En} : ∀ {A B : List En}, (∀ y ∈ A, ltK y.1 x.1) → (∀ y ∈ B, ltK x.1 y.1) → ins x (A ++ B) = A ++ x :: B
  | [], [], _, _ => rfl
  | [], y :: B, _, h => ins_lt (h y (List.mem_cons_self ..))
  | y :: A, B, h, h2 => by
    show ins x (y :: (A ++ B)) = y :: (A ++ x :: B)
    rw [ins_gt (h y (List.mem_cons_self ..)), ins_at (fun z hz => h z (List.mem_cons_of_mem _ hz)) h2]
theorem ins_mid {x l : En} (e : x.1 = l.1) : ∀ {A B : List En}, (∀ y ∈ A, ltK y.1 x.1) → ins x (A ++ l :: B) = A ++ (l.1, mrg x.2 l.2) :: B
  | [], B, _ => ins_eq e
  | y :: A, B, h => by
    show ins x (y :: (A ++ l :: B)) = y :: (A ++ _)
    rw [ins_gt (h y (List.mem_cons_self ..)), ins_mid e (fun z hz => h z (List.mem_cons_of_mem _ hz))]
theorem ItOk.gd {R : Rl} {x : It} (h : ItOk R x) : Gd x.a := ⟨h.c, h.g, fun h2 => absurd h2 h.n⟩
theorem its_gd {R : Rl} {its : List It} (h : ∀ x ∈ its, ItOk R x) : GdE (its.map itE) := fun y hy => by
  obtain ⟨x, hx, rfl⟩ := List.mem_map.1 hy
  exact (h x hx).gd
/-- One more item. -/
theorem foldF_snoc {R : Rl} {wm : Int} {M : List En} {x : En} (hg : GdE M) (hx : Gd x.2) : foldF R wm (M ++ [x]) = match fk R wm x.1 with | none => foldF R wm M | some k => ins (k, x.2) (foldF R wm M) := by
  unfold foldF
  rw [fm_app]
  have e : fm (fk R wm) [x] = match fk R wm x.1 with | none => [] | some k => [(k, x.2)] := by rw [fm_cons]; rfl
  rw [e]
  cases fk R wm x.1 with
  | none => simp
  | some k =>
    have hp : (fm (fk R wm) M ++ [(k, x.2)]).Perm ((k, x.2) :: fm (fk R wm) M) := List.perm_append_comm (l₁ := fm (fk R wm) M) (l₂ := [(k, x.2)])
    show can (fm (fk R wm) M ++ [(k, x.2)]) = ins (k, x.2) (can (fm (fk R wm) M))
    rw [can_perm hp (GdE.app.2 ⟨fm_gd _ hg, fun y hy => by simp at hy; rw [hy]; exact hx⟩)]
    rfl
theorem fk_it {R : Rl} {wm : Int} {x : It} (h : ItOk R x) : fk R wm (itE x).1 = if goneB R wm x.f then none else some (kb x.D (flq R wm x.f x.g) ((stq R wm x.f x.g : Nat) : Int)) := by
  have h1 := rdF_kb x.D x.f (x.g : Int) h.r
  have h2 := fk_of (R := R) (w := wm) h1
  rw [Int.toNat_natCast] at h2
  exact h2
/-- Entries of one's own that are what came of the first items. -/
structure FoI (R : Rl) (wm : Int) (its : List It) (w1 : World) (k : Nat) (xs : List Ev) (v : Value) (wr : World) : Prop where
  r : wr.ownsRow w1.heap.size 60 7 v xs.length (xs.flatMap c7)
  ks : ∀ x ∈ xs, Own wr w1.heap.size x.kv x.k
  m : xs.map evE = foldF R wm ((its.take k).map itE)
  c : ∀ x ∈ xs, CnOk x.a
  b : Below w1.heap.size w1 wr
theorem FoI.below {R : Rl} {wm : Int} {its : List It} {w1 : World} {k : Nat} {xs : List Ev} {v : Value} {wr W : World} (h : FoI R wm its w1 k xs v wr) (hb : Below wr.heap.size wr W) : FoI R wm its w1 k xs v W :=
  ⟨row_below h.r hb, fun x hx => (h.ks x hx).below hb, h.m, h.c, h.b.trans (hb.mono h.b.size)⟩
theorem FoI.start (R : Rl) (wm : Int) (its : List It) (w1 : World) : FoI R wm its w1 0 [] (.slice none 0 0) w1 := ⟨World.ownsRow_nil _ _ _ _, fun x hx => (by cases hx), rfl, fun x hx => (by cases hx), Below.refl _ _⟩
theorem FoI.srt {R : Rl} {wm : Int} {its : List It} {w1 : World} {k : Nat} {xs : List Ev} {v : Value} {wr : World} (h : FoI R wm its w1 k xs v wr) : SrtE (xs.map evE) := by rw [h.m]; exact foldF_srt _ _ _
theorem own_one {w : World} {base : Nat} {v : Value} {l : List UInt8} (h : Own w base v l) : v.oneCell' = true := by
  obtain ⟨a, c, rfl, _⟩ := h.form
  rfl
theorem take_it {its : List It} {k : Nat} (hk : k < its.length) : (its.take (k + 1)).map itE = (its.take k).map itE ++ [itE its[k]] := by
  rw [List.take_add_one, List.getElem?_eq_getElem hk, List.map_append]; rfl
/-- What is gone is passed by. -/
theorem FoI.pass {R : Rl} {wm : Int} {its : List It} {w1 : World} {k : Nat} {xs : List Ev} {v : Value} {wr : World} (h : FoI R wm its w1 k xs v wr) (hk : k < its.length) (hok : ∀ x ∈ its, ItOk R x) (hg : goneB R wm its[k].f = true) : FoI R wm its w1 (k + 1) xs v wr := by
  refine ⟨h.r, h.ks, ?_, h.c, h.b⟩
  have hx := hok its[k] (List.getElem_mem hk)
  rw [take_it hk, foldF_snoc (its_gd (fun x hx => hok x (List.mem_of_mem_take hx))) hx.gd, fk_it hx, if_pos hg, h.m]
theorem fold_next {R : Rl} {wm : Int} {its : List It} {k : Nat} (hk : k < its.length) (hok : ∀ x ∈ its, ItOk R x) (hg : goneB R wm its[k].f = false) : foldF R wm ((its.take (k + 1)).map itE) = ins (kb its[k].D (flq R wm its[k].f its[k].g) ((stq R wm its[k].f its[k].g : Nat) : Int), its[k].a) (foldF R wm ((its.take k).map itE)) := by
  have hx := hok its[k] (List.getElem_mem hk)
  rw [take_it hk, foldF_snoc (its_gd (fun x hx => hok x (List.mem_of_mem_take hx))) hx.gd, fk_it hx, hg]
  rfl
theorem map_get {xs : List Ev} {j : Nat} (hj : j < xs.length) : (xs.map evE)[j]'(by simpa using hj) = (xs[j].k, xs[j].a) := by simp [evE]
theorem srt_take {E : List En} (hs : SrtE E) {j : Nat} (hj : j < E.length) {K : Ks} (h : E[j].1 = K ∨ ltK E[j].1 K) : ∀ y ∈ E.take j, ltK y.1 K := by
  intro y hy
  obtain ⟨t, ht, rfl⟩ := List.getElem_of_mem hy
  simp at ht
  rw [List.getElem_take]
  have := List.pairwise_iff_getElem.1 hs t j (by simp [keysE]; omega) (by simpa [keysE] using hj) (by omega)
  simp only [keysE, List.getElem_map] at this
  rcases h with h | h
  · rw [← h]; exact this
  · exact ltK_trans this h
/-- All from a place on stand behind a key. -/
def Behind (xs : List Ev) (j : Nat) (K : Ks) : Prop := ∀ t (ht : t < xs.length), j ≤ t → ltK K xs[t].k
theorem behind_drop {xs : List Ev} {j : Nat} {K : Ks} (h : Behind xs j K) : ∀ y ∈ (xs.map evE).drop j, ltK K y.1 := by
  intro y hy
  obtain ⟨t, ht, rfl⟩ := List.getElem_of_mem hy
  simp at ht
  rw [List.getElem_drop]
  have := h (j + t) (by omega) (by omega)
  simpa [evE] using this
theorem behind_step {xs : List Ev} {j : Nat} {K : Ks} (h : Behind xs (j + 1) K) (hj : j < xs.length) (hl : ltK K xs[j].k) : Behind xs j K := by
  intro t ht hjt
  rcases Nat.lt_or_ge j t with h1 | h1
  · exact h t ht h1
  · have : t = j := by omega
    subst this; exact hl
/-- A new entry at its place. -/
theorem FoI.put {R : Rl} {wm : Int} {its : List It} {w1 : World} {k : Nat} {xs : List Ev} {v v' : Value} {wr W : World} {o : Obj} {j : Nat} {kv : Value} {K : Ks} (h : FoI R wm its w1 k xs v wr) (hk : k < its.length) (hok : ∀ x ∈ its, ItOk R x)
    (hn : foldF R wm ((its.take (k + 1)).map itE) = ins (K, its[k].a) (foldF R wm ((its.take k).map itE))) (hj : j ≤ xs.length) (hbh : Behind xs j K) (hah : j = 0 ∨ ∃ (h0 : j - 1 < xs.length), ltK xs[j - 1].k K) (ho : Own wr w1.heap.size kv K)
    (hW : InPost (wr.alloc o) w1.heap.size v xs j ⟨kv, K, its[k].a⟩ (.returned v') W) : FoI R wm its w1 (k + 1) (insE xs j ⟨kv, K, its[k].a⟩) v' W := by
  obtain ⟨v2, e, hown, hg⟩ := hW
  cases e
  have hal := (Below.refl wr.heap.size wr).alloc (Nat.le_refl _) o
  have hrl := World.ownsRow.lt h.r
  have hu : ∀ (t : Nat) (cs : Array Value) (fr : Nat × Nat), wr.heap[t]? = some (Obj.cells cs 5 fr) → W.heap[t]? = some (Obj.cells cs 5 fr) := fun t cs fr q => by
    have hlt := (Array.getElem?_eq_some_iff.1 q).1
    refine (hg.block t (by simp; omega) (fun e => ?_)).trans ((hal.block t hlt).trans q)
    rcases h.r.2 with ⟨q2, _⟩ | ⟨g0, c0, cur, q2, _, hw, _⟩
    · rw [q2] at e; simp [Value.ownBlock] at e
    · rw [q2] at e; simp [Value.ownBlock] at e; subst e
      rw [q] at hw; simp at hw
  refine ⟨by rw [insE_len hj]; exact hown, fun x hx => ?_, ?_, fun x hx => ?_, ?_⟩
  · unfold insE at hx
    rcases List.mem_append.1 hx with hx | hx
    · exact own_kp (h.ks x (List.mem_of_mem_take hx)) hu
    · rcases List.mem_cons.1 hx with rfl | hx
      · exact own_kp ho hu
      · exact own_kp (h.ks x (List.mem_of_mem_drop hx)) hu
  · rw [hn, ← h.m]
    unfold insE
    rw [List.map_append, List.map_cons, List.map_take, List.map_drop]
    have e2 : xs.map evE = (xs.map evE).take j ++ (xs.map evE).drop j := (List.take_append_drop j _).symm
    have hA : ∀ y ∈ (xs.map evE).take j, ltK y.1 K := by
      rcases hah with h0 | ⟨h0, hl⟩
      · subst h0; intro y hy; simp at hy
      · intro y hy
        rcases Nat.eq_zero_or_pos j with hz | hz
        · subst hz; simp at hy
        · obtain ⟨t, ht, rfl⟩ := List.getElem_of_mem hy
          simp at ht
          rw [List.getElem_take]
          rcases Nat.lt_or_ge t (j - 1) with h1 | h1
          · exact srt_take h.srt (j := j - 1) (by simpa using h0) (.inr (by simpa [evE] using hl)) _ (by
              rw [List.mem_take_iff_getElem]
              exact ⟨t, by simp; omega, by simp⟩)
          · have : t = j - 1 := by omega
            subst this
            simpa [evE] using hl
    have := ins_at (x := (K, its[k].a)) hA (behind_drop hbh)
    rw [← e2] at this
    rw [this]; rfl
  · unfold insE at hx
    rcases List.mem_append.1 hx with hx | hx
    · exact h.c x (List.mem_of_mem_take hx)
    · rcases List.mem_cons.1 hx with rfl | hx
      · exact (hok its[k] (List.getElem_mem hk)).c
      · exact h.c x (List.mem_of_mem_drop hx)
  · exact (h.b.alloc h.b.size o).grown hg (by have := h.b.size; simp; omega) (fun t ht => (hrl t ht).1)
/-- An entry that knows more. -/
theorem FoI.more {R : Rl} {wm : Int} {its : List It} {w1 : World} {k : Nat} {xs : List Ev} {g cap : Nat} {wr W : World} {cur : Array Value} {j : Nat} {K : Ks} (h : FoI R wm its w1 k xs (.slice (some ⟨g, 0, none⟩) xs.length cap) wr) (hk : k < its.length) (hok : ∀ x ∈ its, ItOk R x)
    (hn : foldF R wm ((its.take (k + 1)).map itE) = ins (K, its[k].a) (foldF R wm ((its.take k).map itE))) (hj : j < xs.length) (he : xs[j].k = K)
    (hcur : wr.heap[g]? = some (.cells cur 60)) (hW : StW wr W g (j * 7 + 1) cur 60 (a6 (mrg xs[j].a its[k].a))) : FoI R wm its w1 (k + 1) (xs.set j ⟨xs[j].kv, xs[j].k, mrg xs[j].a its[k].a⟩) (.slice (some ⟨g, 0, none⟩) xs.length cap) W := by
  have hx := hok its[k] (List.getElem_mem hk)
  have hgl := World.ownsRow.lt h.r g rfl
  have hset := row_setA h.r hcur hW hj rfl
  have hu : ∀ (t : Nat) (cs : Array Value) (fr : Nat × Nat), wr.heap[t]? = some (Obj.cells cs 5 fr) → W.heap[t]? = some (Obj.cells cs 5 fr) := fun t cs fr q => (hW.o t (typ_ne q hcur (by decide))).trans q
  have hmem : ∀ x ∈ xs.set j ⟨xs[j].kv, xs[j].k, mrg xs[j].a its[k].a⟩, x ∈ xs ∨ x = ⟨xs[j].kv, xs[j].k, mrg xs[j].a its[k].a⟩ := fun x hx => List.mem_or_eq_of_mem_set hx
  refine ⟨by rw [List.length_set]; exact hset, fun x hx => ?_, ?_, fun x hx => ?_, h.b.trans (hW.b _ hgl.1)⟩
  · rcases hmem x hx with hx | rfl
    · exact own_kp (h.ks x hx) hu
    · exact own_kp (h.ks xs[j] (List.getElem_mem hj)) hu
  · rw [hn, ← h.m]
    have hgd : GdE (xs.map evE) := by rw [h.m]; exact foldF_gd (its_gd (fun x hx => hok x (List.mem_of_mem_take hx)))
    have e2 : xs.map evE = (xs.map evE).take j ++ (xs[j].k, xs[j].a) :: (xs.map evE).drop (j + 1) := by
      have h1 := List.take_append_drop j (xs.map evE)
      rw [List.drop_eq_getElem_cons (show j < (xs.map evE).length by simpa using hj), map_get hj] at h1
      exact h1.symm
    have h3 := ins_mid (x := (K, its[k].a)) (l := (xs[j].k, xs[j].a)) he.symm (A := (xs.map evE).take j) (B := (xs.map evE).drop (j + 1)) (srt_take h.srt (by simpa using hj) (.inl (by rw [map_get hj]; exact he)))
    rw [← e2] at h3
    rw [h3, List.map_set, gd_comm hx.gd (hgd (xs[j].k, xs[j].a) (by rw [e2]; simp))]
    rw [List.set_eq_take_append_cons_drop, if_pos (by simpa using hj)]
    rfl
  · rcases hmem x hx with hx | rfl
    · exact h.c x hx
    · exact mrg_cnk (h.c xs[j] (List.getElem_mem hj)) (hok its[k] (List.getElem_mem hk)).c
end Go.Proofs.YtoenijflijfogaaGreat
