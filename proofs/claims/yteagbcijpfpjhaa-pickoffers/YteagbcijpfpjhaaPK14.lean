/- slices.Delete of one run. -/
import Derived.Test.YteagbcijpfpjhaaPK13
namespace Go.Proofs.Yteagbcijpfpjhaa
open Go.RowKit Go.Shelf

/-- L[c:] -/
theorem nsl_from {w : World} {ad : Addr} {cap : Nat} {L : List Rn} (h : NReads w (.slice (some ad) L.length cap) L) {c : Nat} (hc : c ≤ L.length) :
    ∃ a' cap', (∀ w', (Instr.slice 22 (.slice (some ad) L.length cap) (some (.int .i64 (c : Int))) none none).run Try.prog w' = .ok (.slice (some a') (L.length - c) cap') w') ∧ NReads w (.slice (some a') (L.length - c) cap') (L.drop c) := by
  obtain ⟨_, _, hv, hcap, _⟩ := h.form
  simp at hv
  obtain ⟨_, rfl⟩ := hv
  have h2 := h.sliced hc (Nat.le_refl _)
  rw [List.take_length] at h2
  unfold Go.sliced at h2
  obtain ⟨a', ha⟩ : ∃ a', (if cap = c then some ad else (some ad).map (·.add (c * 4))) = some a' := by split <;> exact ⟨_, rfl⟩
  rw [ha] at h2
  refine ⟨a', cap - c, fun w' => ?_, h2⟩
  rw [run_slice_l _ _ _ _ _ undN _ _ (by omega) (by omega), elemN, sizeN]
  show Result.ok (Go.sliced (some ad) c L.length cap 4) w' = _
  unfold Go.sliced
  rw [ha]
theorem run_clear1 (w : World) (ty : TypeId) (b o c : Nat) (ht : w.there b o 4) :
    (Builtin.clear_ #[22] ty #[.slice (some ⟨b, o, none⟩) 1 c]).run Try.prog w = .ok (.tuple #[]) (w.setCells b o [.int .i64 0, .int .i64 0, .int .i64 0, .bool false]) := by
  have hz : ∀ w, (zeroValue 48).run Try.prog w = .ok (.agg #[.int .i64 0, .int .i64 0, .int .i64 0, .bool false]) w := Try.zeroValue48
  have hst := run_storeCells_cells (P := Try.prog) b o [.int .i64 0, .int .i64 0, .int .i64 0, .bool false] 0 w (fun j hj => by simpa using (ht j (by simpa using hj)).1) (fun j hj => by simpa using (ht j (by simpa using hj)).2) (by intro v hv; simp at hv; rcases hv with rfl | rfl <;> rfl)
  simp only [Nat.add_zero] at hst
  have hzc : (Builtin.zeroCells (Value.agg #[.int .i64 0, .int .i64 0, .int .i64 0, .bool false]).cells 1).toList = [.int .i64 0, .int .i64 0, .int .i64 0, .bool false] := by first | kernel_rfl | (simp [Builtin.zeroCells, Value.cells]; done) | decide
  simp [Builtin.clear_, run_underlying Try.underlying22, hz, hzc, hst]
theorem own_cut {w : World} {base g n cap : Nat} {L : List Rn} (h : NOwn 48 w base (.slice (some ⟨g, 0, none⟩) n cap) L) {k : Nat} (hk : k ≤ L.length) : w.ownsRow base 48 4 (.slice (some ⟨g, 0, none⟩) k cap) k ((L.take k).flatMap r4) := by
  refine ⟨by rw [flat_len, List.length_take]; congr 1; omega, ?_⟩
  rcases h.1.2 with ⟨hv, _⟩ | ⟨g', cap', cur, hv, hg, hw, hc, hm, hs, ht⟩
  · cases hv
  · simp at hv
    obtain ⟨rfl, rfl, rfl⟩ := hv
    refine .inr ⟨g, cap, cur, rfl, hg, hw, by omega, hm, hs, ?_⟩
    have e : (L.take k).flatMap r4 = (L.flatMap r4).take (k * 4) := by
      have e2 : L.flatMap r4 = (L.take k).flatMap r4 ++ (L.drop k).flatMap r4 := by rw [← List.flatMap_append, List.take_append_drop]
      rw [e2, List.take_append_of_le_length (by rw [flat_len, List.length_take]; omega), List.take_of_length_le (l := (L.take k).flatMap r4) (by rw [flat_len, List.length_take]; omega)]
    rw [e, ← ht, List.take_take, Nat.min_eq_left (by omega)]
/-- Cells behind a row's own are set: the row stands. -/
theorem own_behind {w : World} {base g n cap : Nat} {xs : List Value} {T : TypeId} (h : w.ownsRow base T 4 (.slice (some ⟨g, 0, none⟩) n cap) n xs) (o : Nat) (vs : List Value) (ho : n * 4 ≤ o) (hl : o + vs.length ≤ cap * 4) :
    (w.setCells g o vs).ownsRow base T 4 (.slice (some ⟨g, 0, none⟩) n cap) n xs ∧ Below base w (w.setCells g o vs) := by
  rcases h.2 with ⟨hv, _⟩ | ⟨g', cap', cur, hv, hg, hw, hc, hm, hs, ht⟩
  · cases hv
  · simp at hv
    obtain ⟨rfl, rfl⟩ := hv
    have hW := stW_cells g T vs o w cur hw (by omega)
    obtain ⟨cur', k1, k2, k3, k4⟩ := hW.c
    refine ⟨⟨h.1, .inr ⟨g, cap, cur', rfl, hg, k1, hc, hm, by rw [k2, hs], ?_⟩⟩, hW.b _ hg⟩
    rw [← ht]
    apply List.ext_getElem?
    intro j
    rw [List.getElem?_take, List.getElem?_take]
    split
    · rename_i hj
      rw [Array.getElem?_toList, Array.getElem?_toList]
      exact k3 j (.inl (by omega))
    · rfl
theorem there_own {w : World} {base g n cap : Nat} {xs : List Value} {T : TypeId} (h : w.ownsRow base T 4 (.slice (some ⟨g, 0, none⟩) n cap) n xs) (o : Nat) (ho : o + 4 ≤ cap * 4) : w.there g o 4 := by
  rcases h.2 with ⟨hv, _⟩ | ⟨g', cap', cur, hv, hg, hw, hc, hm, hs, ht⟩
  · cases hv
  · simp at hv
    obtain ⟨rfl, rfl⟩ := hv
    exact there_of hw (by omega)
set_option maxRecDepth 100000 in
set_option maxHeartbeats 2000000 in
theorem delete_any (v : Value) (L : List Rn) (i : Nat) (base : Nat) (w : World) (hO : NOwn 48 w base v L) (hi : i < L.length) (h64 : L.length ≤ 1000) (hbase : base ≤ w.heap.size) :
    Calls Try.prog 36 #[v, .int .i64 (i : Int), .int .i64 ((i : Int) + 1)] w fun e w' => ∃ v', e = .returned v' ∧ NOwn 48 w' base v' (L.eraseIdx i) ∧ Below base w w' := by
  have HO : Hid (NOwn 48 w base v L) := hO
  obtain ⟨g, cap, rfl, hg, hgl, hcap, hm⟩ : ∃ g cap, v = .slice (some ⟨g, 0, none⟩) L.length cap ∧ base ≤ g ∧ g < w.heap.size ∧ L.length ≤ cap ∧ cap ≤ maxLen := by
    have hlt := World.ownsRow.lt hO.1
    rcases hO.1.2 with ⟨_, h1⟩ | ⟨g, cap, cur, hv, hg, hw, hc, hm, _⟩
    · omega
    · exact ⟨g, cap, hv, hg, (hlt g (by rw [hv]; rfl)).2, hc, hm⟩
  clear hO
  unfold maxLen at hm
  obtain ⟨x1, hx1⟩ : ∃ x, ∀ w', (Instr.slice 22 (.slice (some ⟨g, 0, none⟩) L.length cap) (some (.int .i64 (i : Int))) (some (.int .i64 ((i : Int) + 1))) (some (.int .i64 (L.length : Int)))).run Try.prog w' = .ok x w' :=
    ⟨Go.sliced (some ⟨g, 0, none⟩) (i : Int).toNat ((i : Int) + 1).toNat (L.length : Int).toNat 4, fun w' => by
      rw [run_slice_lhm _ _ _ _ _ undN _ _ _ _ _ _ (by omega) (by omega) (by omega) (by omega), elemN, sizeN]
      rfl⟩
  have hup : ∀ w', (Instr.slice 22 (.slice (some ⟨g, 0, none⟩) L.length cap) none (some (.int .i64 (i : Int))) none).run Try.prog w' = .ok (.slice (some ⟨g, 0, none⟩) i cap) w' := fun w' => by
    rw [run_slice_h _ _ _ _ _ undN _ _ (by omega) (by omega), elemN, sizeN]
    show Result.ok (Go.sliced (some ⟨g, 0, none⟩) 0 i cap 4) w' = _
    unfold Go.sliced
    congr 2
    split <;> simp [Addr.add]
  obtain ⟨da, dc, hfr, hdr⟩ := nsl_from HO.out.reads (c := i + 1) (by omega)
  have hfr2 : ∀ w', (Instr.slice 22 (.slice (some ⟨g, 0, none⟩) L.length cap) (some (.int .i64 ((i : Int) + 1))) none none).run Try.prog w' = .ok (.slice (some da) (L.length - (i + 1)) dc) w' := hfr
  clear hfr
  obtain ⟨m, Hm⟩ := hid_ex (i + (L.length - (i + 1)))
  have hmL : m + 1 = L.length := by rw [Hm.out]; omega
  have hcl : ∀ w', (Instr.slice 22 (.slice (some ⟨g, 0, none⟩) m cap) (some (.int .i64 (m : Int))) (some (.int .i64 (L.length : Int))) none).run Try.prog w' = .ok (.slice (some ⟨g, m * 4, none⟩) 1 (cap - m)) w' := fun w' => by
    rw [run_slice_lh _ _ _ _ _ undN _ _ _ _ (by omega) (by omega) (by omega), elemN, sizeN]
    show Result.ok (Go.sliced (some ⟨g, 0, none⟩) m L.length cap 4) w' = _
    unfold Go.sliced
    rw [if_neg (by omega), show L.length - m = 1 by omega]
    congr 2
    simp [Addr.add]
    omega
  obtain ⟨i0, hinf, hz0, hz1, hz2⟩ := info_parts infoN
  have hnd : ∀ j u, ((L.drop (i + 1)).flatMap r4)[j]? = some u → w.drew.cell? (da.add j) = some u := by
    intro j u hj
    rcases Nat.eq_zero_or_pos (L.drop (i + 1)).length with h | h
    · rw [List.length_eq_zero_iff.1 h] at hj; simp at hj
    · obtain ⟨b, off, e, _⟩ := hdr.ptr h
      cases e
      exact news_flat hdr j u hj
  obtain ⟨W1, hrun, hown1, hgr1⟩ := run_append_fits (P := Try.prog) w.drew base 22 22 48 i0 4 Try.underlying22 hinf hz1 g i cap ((L.take i).flatMap r4) (own_cut HO.out (by omega)) da (L.length - (i + 1)) dc ((L.drop (i + 1)).flatMap r4) (by rw [flat_len, List.length_drop]) hnd (one_flat _) (by omega)
  rw [← Hm.out] at hrun hown1
  have hth := there_own hown1 (m * 4) (by omega)
  have hclr := fun ty => run_clear1 W1 ty g (m * 4) (cap - m) hth
  obtain ⟨hown2, hb2⟩ := own_behind hown1 (m * 4) [.int .i64 0, .int .i64 0, .int .i64 0, .bool false] (Nat.le_refl _) (by simp; omega)
  obtain ⟨W2, HW2⟩ := hid_ex (W1.setCells g (m * 4) [.int .i64 0, .int .i64 0, .int .i64 0, .bool false])
  rw [← HW2.out] at hclr hown2 hb2
  have HO2 : Hid (NOwn 48 W2 base (.slice (some ⟨g, 0, none⟩) m cap) (L.eraseIdx i)) := by
    refine ⟨?_, fun r hr => HO.out.2 r (List.mem_of_mem_eraseIdx hr)⟩
    rw [List.eraseIdx_eq_take_drop_succ, List.flatMap_append, List.length_append, List.length_take, List.length_drop, Nat.min_eq_left (by omega), ← Hm.out]
    exact hown2
  have HB2 : Hid (Below base w W2) := (((Below.refl base w).drew).grown hgr1 hbase (fun k e => by cases e; exact hg)).trans hb2
  clear hnd hown1 hgr1 hth hown2 hb2 hdr hinf hz0 hz1 hz2 HW2 Hm
  have hne : ((i : Int) == (i : Int) + 1) = false := by rw [beq_eq_false_iff_ne]; omega
  generalize L.length = n at *
  go_enter Try.func36, Try.ntmps36
  go_wp2_with fail
  go_region_law (refine wp_app_run (.tmp 22) (.tmp 25) 22 22 rfl rfl _ _ _ (by simp [Act.eval, Act.put]) (by simp [Act.eval, Act.put]) hrun ?_)
  go_wp2_with fail
  go_ret
  exact ⟨_, rfl, HO2.out, HB2.out⟩
end Go.Proofs.Yteagbcijpfpjhaa
