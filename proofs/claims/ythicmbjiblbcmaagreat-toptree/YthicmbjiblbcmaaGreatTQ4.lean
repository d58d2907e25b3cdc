/- PK13 PK14 PK15 PK16 PK17, joined. -/
import Derived.Test.YthicmbjiblbcmaaGreatTQ3
import Derived.Deep.RegionLaw
import Derived.Lib.SliceRun
import Derived.Laws.OwnMore
/- place; slices.Clone and Delete of runs. -/
namespace Go.Proofs.YthicmbjiblbcmaaGreat
open Go.RowKit Go.Shelf

def isF (f : Int) (r : Rn) : Bool := decide (r.f = f)
theorem eg_place1 : ∀ args w, (callFunc 57 args).run Tryz.prog w = .ok (.enter 57 args) w := enters_of Tryz.func57 (by kernel_rfl) rfl
set_option maxRecDepth 100000 in
theorem place1_says (f : Int) (B : Nat) (w : World) (hB : B < w.heap.size) (hc : w.cell? ⟨B, 0, none⟩ = some (.int .i64 f)) : Says w 57 #[.pointer (some ⟨B, 0, none⟩)] (isF f) := by
  intro W r hb
  have hcW : W.cell? ⟨B, 0, none⟩ = some (.int .i64 f) := (hb.cell (p := ⟨B, 0, none⟩) hB).trans hc
  have hBW : B < W.heap.size := Nat.lt_of_lt_of_le hB hb.size
  show Calls Tryz.prog 57 #[.agg #[.int .i64 r.f, .int .i64 r.l, .int .i64 r.c, .bool r.s], .pointer (some ⟨B, 0, none⟩)] W _
  clear hb hc
  obtain ⟨q, Hq⟩ := hid_exP (isF f r)
  rw [← Hq.out]
  have hne : B ≠ W.heap.size := by omega
  by_cases hl : r.f = f
  · have hbe : (r.f == f) = true := by simpa using hl
    have HV : Hid (q = true) := by
      unfold Hid
      rw [Hq.out]
      exact decide_eq_true hl
    clear hl
    go_enter Tryz.func57, Tryz.ntmps57
    go_wp2_with fail
    go_ret
    refine ⟨?_, (Below.refl _ _).alloc (Nat.le_refl _) _⟩
    rw [HV.out]
    rfl
  · have hbe : (r.f == f) = false := by simpa using hl
    have HV : Hid (q = false) := by
      unfold Hid
      rw [Hq.out]
      exact decide_eq_false hl
    clear hl
    go_enter Tryz.func57, Tryz.ntmps57
    go_wp2_with fail
    go_ret
    refine ⟨?_, (Below.refl _ _).alloc (Nat.le_refl _) _⟩
    rw [HV.out]
    rfl
/-- What place answers. -/
def PlPost (L : List Rn) (f : Int) (e : Ending) : Prop := (∃ k, ∃ hk : k < L.length, e = .returned (.int .i64 (k : Int)) ∧ L[k].f = f ∧ ∀ j (hj : j < L.length), j < k → L[j].f ≠ f) ∨ (e = .returned (.int .i64 (-1)) ∧ ∀ r ∈ L, r.f ≠ f)
set_option maxRecDepth 100000 in
theorem place_any (v : Value) (L : List Rn) (f : Int) (w : World) (hR : NReads w v L) : Calls Tryz.prog 33 #[v, .int .i64 f] w fun e w' => Below w.heap.size w w' ∧ PlPost L f e := by
  have HR : Hid (NReads w v L) := hR
  obtain ⟨a, cap, rfl, hl1, hl2⟩ := hR.form
  clear hR
  have hb : Below w.heap.size w (w.alloc (.cells #[.int .i64 f] 3)) := (Below.refl _ _).alloc (Nat.le_refl _) _
  have HB : Hid _ := hb
  go_enter Tryz.func33, Tryz.ntmps33
  go_wp2_with fail
  refine (indexF_any (isF f) _ _ eg_place1 _ L _ (HR.out.below HB.out) (place1_says f w.heap.size _ (by simp) (by simp))).mono ?_
  rintro e w' ⟨hb', hp⟩
  have HB' : Hid (Below w.heap.size w w') := HB.out.trans (hb'.mono HB.out.size)
  have HP : Hid (PlPost L f e) := by
    rcases hp with ⟨k, hk, h1, h2, h3⟩ | ⟨h1, h2⟩
    · exact .inl ⟨k, hk, h1, by simpa [isF] using h2, fun j hj hjk => by simpa [isF] using h3 j hj hjk⟩
    · exact .inr ⟨h1, fun r hr => by simpa [isF] using h2 r hr⟩
  clear hb' hb
  rcases hp with ⟨k, hk, rfl, _, _⟩ | ⟨rfl, _⟩
  · go_wp2_with fail
    go_ret
    exact ⟨HB'.out, HP.out⟩
  · go_wp2_with fail
    go_ret
    exact ⟨HB'.out, HP.out⟩
theorem flat_len (L : List Rn) : (L.flatMap r4).length = L.length * 4 := by
  induction L with
  | nil => rfl
  | cons r L ih => rw [List.flatMap_cons, List.length_append, ih, r4_len, List.length_cons]; omega
theorem one_flat (L : List Rn) : ∀ u ∈ L.flatMap r4, u.oneCell' = true := by
  intro u hu
  obtain ⟨r, _, h⟩ := List.mem_flatMap.1 hu
  exact oneR4 u h
theorem news_flat {w : World} {b off n cap : Nat} {L : List Rn} (h : NReads w (.slice (some ⟨b, off, none⟩) n cap) L) : ∀ j u, (L.flatMap r4)[j]? = some u → w.cell? ((⟨b, off, none⟩ : Addr).add j) = some u := by
  intro j u hj
  have hl : j < L.length * 4 := by
    have := (List.getElem?_eq_some_iff.1 hj).1
    rwa [flat_len] at this
  have hq : j / 4 < L.length := by omega
  have e : j = 4 * (j / 4) + j % 4 := by omega
  rw [e, flat4 L (j / 4) (j % 4) hq (by omega)] at hj
  have := h.at hq (j % 4) (by omega)
  have ea : (⟨b, off, none⟩ : Addr).add j = ⟨b, off + j, none⟩ := by simp [Addr.add]
  rw [ea, show off + j = off + j / 4 * 4 + j % 4 by omega, this, ← hj, List.getElem?_eq_getElem (by rw [r4_len]; omega)]
  rfl
set_option maxRecDepth 100000 in
theorem clone_any (v : Value) (L : List Rn) (w : World) (hR : NReads w v L) (h64 : L.length ≤ 1000) : Calls Tryz.prog 55 #[v] w fun e w' => ∃ v', e = .returned v' ∧ NOwn 47 w' w.heap.size v' L ∧ Below w.heap.size w w' := by
  have HR : Hid (NReads w v L) := hR
  obtain ⟨a, cap, rfl, hl1, hl2⟩ := hR.form
  clear hR
  have q22 : ∀ (w : World) (a : Option Addr) (n c n' c' : Nat), (binOp .eql 27 (.slice a n c) (.slice none n' c')).run Tryz.prog w = .ok (.bool a.isNone) w := fun w a n c n' c' => Lib.run_eql_slice_nil w _ _ a n c n' c' Tryz.underlying27
  cases a with
  | none =>
    have hL : L = [] := by
      rcases Nat.eq_zero_or_pos L.length with h | h
      · exact List.length_eq_zero_iff.1 h
      · obtain ⟨b, off, e, _⟩ := HR.out.ptr h
        cases e
    subst hL
    go_enter Tryz.func55, Tryz.ntmps55
    go_wp2_with fail
    go_ret
    exact ⟨_, rfl, NOwn.nil _ _ _, Below.refl _ _⟩
  | some ad =>
    obtain ⟨i0, hi, hz0, hz1, hz2⟩ := info_parts infoN
    have hn : ∀ j u, (L.flatMap r4)[j]? = some u → (w.alloc (.cells #[] 47)).cell? (ad.add j) = some u := by
      intro j u hj
      rcases Nat.eq_zero_or_pos L.length with h | h
      · rw [List.length_eq_zero_iff.1 h] at hj; simp at hj
      · obtain ⟨b, off, e, _⟩ := HR.out.ptr h
        cases e
        exact news_flat (HR.out.below ((Below.refl _ _).alloc (Nat.le_refl _) _)) j u hj
    have hown0 : (w.alloc (.cells #[] 47)).ownsRow w.heap.size 47 4 (.slice (some ⟨w.heap.size, 0, none⟩) 0 0) 0 [] := ⟨rfl, .inr ⟨w.heap.size, 0, #[], rfl, Nat.le_refl _, heap_alloc_new _ _, Nat.le_refl _, by simp [maxLen], rfl, rfl⟩⟩
    obtain ⟨v', w', hrun, hown', hgrow, _⟩ := run_append_own (P := Tryz.prog) (w.alloc (.cells #[] 47)) w.heap.size 27 27 47 i0 _ 4 32 Tryz.underlying27 hi hz0 hz1 hz2 rfl (by decide) _ 0 [] hown0 ad L.length cap (L.flatMap r4) (flat_len L) hn (one_flat L) (by unfold maxLen; omega) (by omega) (by simp)
    have HO : Hid (NOwn 47 w' w.heap.size v' L) := ⟨by rw [Nat.zero_add, List.nil_append] at hown'; exact hown', HR.out.ok⟩
    have HB : Hid (Below w.heap.size w w') := ((Below.refl _ _).alloc (Nat.le_refl _) _).grown hgrow (by simp) (fun k e => by cases e; exact Nat.le_refl _)
    clear hn hown0 hown' hgrow hi hz0 hz1 hz2
    go_enter Tryz.func55, Tryz.ntmps55
    go_wp2_with (at_builtin; refine wpList_app_runP rfl _ _ _ _ rfl rfl _ _ _ rfl rfl hrun ?_)
    clear hrun
    (try go_wp2_with fail)
    go_ret
    exact ⟨_, rfl, HO.out, HB.out⟩
end Go.Proofs.YthicmbjiblbcmaaGreat

/- slices.Delete of one run. -/
namespace Go.Proofs.YthicmbjiblbcmaaGreat
open Go.RowKit Go.Shelf

/-- L[c:] -/
theorem nsl_from {w : World} {ad : Addr} {cap : Nat} {L : List Rn} (h : NReads w (.slice (some ad) L.length cap) L) {c : Nat} (hc : c ≤ L.length) :
    ∃ a' cap', (∀ w', (Instr.slice 27 (.slice (some ad) L.length cap) (some (.int .i64 (c : Int))) none none).run Tryz.prog w' = .ok (.slice (some a') (L.length - c) cap') w') ∧ NReads w (.slice (some a') (L.length - c) cap') (L.drop c) := by
  obtain ⟨_, _, hv, hcap, _⟩ := h.form
  simp at hv
  obtain ⟨_, rfl⟩ := hv
  have h2 := h.sliced hc (Nat.le_refl _)
  rw [List.take_length] at h2
  unfold Go.sliced at h2
  obtain ⟨a', ha⟩ : ∃ a', (if cap = c then some ad else (some ad).map (·.add (c * 4))) = some a' := by split <;> exact ⟨_, rfl⟩
  rw [ha] at h2
  refine ⟨a', cap - c, fun w' => ?_, h2⟩
  rw [run_slice_l _ _ _ _ _ undN _ _ (by omega) (by omega), elemN, sizeN]
  show Result.ok (Go.sliced (some ad) c L.length cap 4) w' = _
  unfold Go.sliced
  rw [ha]
theorem run_clear1 (w : World) (ty : TypeId) (b o c : Nat) (ht : w.there b o 4) :
    (Builtin.clear_ #[27] ty #[.slice (some ⟨b, o, none⟩) 1 c]).run Tryz.prog w = .ok (.tuple #[]) (w.setCells b o [.int .i64 0, .int .i64 0, .int .i64 0, .bool false]) := by
  have hz : ∀ w, (zeroValue 47).run Tryz.prog w = .ok (.agg #[.int .i64 0, .int .i64 0, .int .i64 0, .bool false]) w := Tryz.zeroValue47
  have hst := run_storeCells_cells (P := Tryz.prog) b o [.int .i64 0, .int .i64 0, .int .i64 0, .bool false] 0 w (fun j hj => by simpa using (ht j (by simpa using hj)).1) (fun j hj => by simpa using (ht j (by simpa using hj)).2) (by intro v hv; simp at hv; rcases hv with rfl | rfl <;> rfl)
  simp only [Nat.add_zero] at hst
  have hzc : (Builtin.zeroCells (Value.agg #[.int .i64 0, .int .i64 0, .int .i64 0, .bool false]).cells 1).toList = [.int .i64 0, .int .i64 0, .int .i64 0, .bool false] := by first | kernel_rfl | (simp [Builtin.zeroCells, Value.cells]; done) | decide
  simp [Builtin.clear_, run_underlying Tryz.underlying27, hz, hzc, hst]
theorem own_cut {w : World} {base g n cap : Nat} {L : List Rn} (h : NOwn 47 w base (.slice (some ⟨g, 0, none⟩) n cap) L) {k : Nat} (hk : k ≤ L.length) : w.ownsRow base 47 4 (.slice (some ⟨g, 0, none⟩) k cap) k ((L.take k).flatMap r4) := by
  refine ⟨by rw [flat_len, List.length_take]; congr 1; omega, ?_⟩
  rcases h.1.2 with ⟨hv, _⟩ | ⟨g', cap', cur, hv, hg, hw, hc, hm, hs, ht⟩
  · cases hv
  · simp at hv
    obtain ⟨rfl, rfl, rfl⟩ := hv
    refine .inr ⟨g, cap, cur, rfl, hg, hw, by omega, hm, hs, ?_⟩
    have e : (L.take k).flatMap r4 = (L.flatMap r4).take (k * 4) := by
      have e2 : L.flatMap r4 = (L.take k).flatMap r4 ++ (L.drop k).flatMap r4 := by rw [← List.flatMap_append, List.take_append_drop]
      rw [e2, List.take_append_of_le_length (by rw [flat_len, List.length_take]; omega), List.take_of_length_le (l := (L.take k).flatMap r4) (by rw [flat_len, List.length_take]; omega)]
    rw [e, ← ht, List.take_take, Nat.min_eq_left (by omega)]
/-- Cells behind a row's own are set: the row stands. -/
theorem own_behind {w : World} {base g n cap : Nat} {xs : List Value} {T : TypeId} (h : w.ownsRow base T 4 (.slice (some ⟨g, 0, none⟩) n cap) n xs) (o : Nat) (vs : List Value) (ho : n * 4 ≤ o) (hl : o + vs.length ≤ cap * 4) :
    (w.setCells g o vs).ownsRow base T 4 (.slice (some ⟨g, 0, none⟩) n cap) n xs ∧ Below base w (w.setCells g o vs) := by
  rcases h.2 with ⟨hv, _⟩ | ⟨g', cap', cur, hv, hg, hw, hc, hm, hs, ht⟩
  · cases hv
  · simp at hv
    obtain ⟨rfl, rfl⟩ := hv
    have hW := stW_cellsP g T vs o w cur hw (by omega)
    obtain ⟨cur', k1, k2, k3, k4⟩ := hW.c
    refine ⟨⟨h.1, .inr ⟨g, cap, cur', rfl, hg, k1, hc, hm, by rw [k2, hs], ?_⟩⟩, hW.b _ hg⟩
    rw [← ht]
    apply List.ext_getElem?
    intro j
    rw [List.getElem?_take, List.getElem?_take]
    split
    · rename_i hj
      rw [Array.getElem?_toList, Array.getElem?_toList]
      exact k3 j (.inl (by omega))
    · rfl
theorem there_own {w : World} {base g n cap : Nat} {xs : List Value} {T : TypeId} (h : w.ownsRow base T 4 (.slice (some ⟨g, 0, none⟩) n cap) n xs) (o : Nat) (ho : o + 4 ≤ cap * 4) : w.there g o 4 := by
  rcases h.2 with ⟨hv, _⟩ | ⟨g', cap', cur, hv, hg, hw, hc, hm, hs, ht⟩
  · cases hv
  · simp at hv
    obtain ⟨rfl, rfl⟩ := hv
    exact there_ofP hw (by omega)
set_option maxRecDepth 100000 in
set_option maxHeartbeats 2000000 in
theorem delete_any (v : Value) (L : List Rn) (i : Nat) (base : Nat) (w : World) (hO : NOwn 47 w base v L) (hi : i < L.length) (h64 : L.length ≤ 1000) (hbase : base ≤ w.heap.size) :
    Calls Tryz.prog 56 #[v, .int .i64 (i : Int), .int .i64 ((i : Int) + 1)] w fun e w' => ∃ v', e = .returned v' ∧ NOwn 47 w' base v' (L.eraseIdx i) ∧ Below base w w' := by
  have HO : Hid (NOwn 47 w base v L) := hO
  obtain ⟨g, cap, rfl, hg, hgl, hcap, hm⟩ : ∃ g cap, v = .slice (some ⟨g, 0, none⟩) L.length cap ∧ base ≤ g ∧ g < w.heap.size ∧ L.length ≤ cap ∧ cap ≤ maxLen := by
    have hlt := World.ownsRow.lt hO.1
    rcases hO.1.2 with ⟨_, h1⟩ | ⟨g, cap, cur, hv, hg, hw, hc, hm, _⟩
    · omega
    · exact ⟨g, cap, hv, hg, (hlt g (by rw [hv]; rfl)).2, hc, hm⟩
  clear hO
  unfold maxLen at hm
  obtain ⟨x1, hx1⟩ : ∃ x, ∀ w', (Instr.slice 27 (.slice (some ⟨g, 0, none⟩) L.length cap) (some (.int .i64 (i : Int))) (some (.int .i64 ((i : Int) + 1))) (some (.int .i64 (L.length : Int)))).run Tryz.prog w' = .ok x w' :=
    ⟨Go.sliced (some ⟨g, 0, none⟩) (i : Int).toNat ((i : Int) + 1).toNat (L.length : Int).toNat 4, fun w' => by
      rw [run_slice_lhm _ _ _ _ _ undN _ _ _ _ _ _ (by omega) (by omega) (by omega) (by omega), elemN, sizeN]
      rfl⟩
  have hup : ∀ w', (Instr.slice 27 (.slice (some ⟨g, 0, none⟩) L.length cap) none (some (.int .i64 (i : Int))) none).run Tryz.prog w' = .ok (.slice (some ⟨g, 0, none⟩) i cap) w' := fun w' => by
    rw [run_slice_h _ _ _ _ _ undN _ _ (by omega) (by omega), elemN, sizeN]
    show Result.ok (Go.sliced (some ⟨g, 0, none⟩) 0 i cap 4) w' = _
    unfold Go.sliced
    congr 2
    split <;> simp [Addr.add]
  obtain ⟨da, dc, hfr, hdr⟩ := nsl_from HO.out.reads (c := i + 1) (by omega)
  have hfr2 : ∀ w', (Instr.slice 27 (.slice (some ⟨g, 0, none⟩) L.length cap) (some (.int .i64 ((i : Int) + 1))) none none).run Tryz.prog w' = .ok (.slice (some da) (L.length - (i + 1)) dc) w' := hfr
  clear hfr
  obtain ⟨m, Hm⟩ := hid_exP (i + (L.length - (i + 1)))
  have hmL : m + 1 = L.length := by rw [Hm.out]; omega
  have hcl : ∀ w', (Instr.slice 27 (.slice (some ⟨g, 0, none⟩) m cap) (some (.int .i64 (m : Int))) (some (.int .i64 (L.length : Int))) none).run Tryz.prog w' = .ok (.slice (some ⟨g, m * 4, none⟩) 1 (cap - m)) w' := fun w' => by
    rw [run_slice_lh _ _ _ _ _ undN _ _ _ _ (by omega) (by omega) (by omega), elemN, sizeN]
    show Result.ok (Go.sliced (some ⟨g, 0, none⟩) m L.length cap 4) w' = _
    unfold Go.sliced
    rw [if_neg (by omega), show L.length - m = 1 by omega]
    congr 2
    simp [Addr.add]
    omega
  obtain ⟨i0, hinf, hz0, hz1, hz2⟩ := info_parts infoN
  have hnd : ∀ j u, ((L.drop (i + 1)).flatMap r4)[j]? = some u → w.drew.cell? (da.add j) = some u := by
    intro j u hj
    rcases Nat.eq_zero_or_pos (L.drop (i + 1)).length with h | h
    · rw [List.length_eq_zero_iff.1 h] at hj; simp at hj
    · obtain ⟨b, off, e, _⟩ := hdr.ptr h
      cases e
      exact news_flat hdr j u hj
  obtain ⟨W1, hrun, hown1, hgr1⟩ := run_append_fits (P := Tryz.prog) w.drew base 27 27 47 i0 4 Tryz.underlying27 hinf hz1 g i cap ((L.take i).flatMap r4) (own_cut HO.out (by omega)) da (L.length - (i + 1)) dc ((L.drop (i + 1)).flatMap r4) (by rw [flat_len, List.length_drop]) hnd (one_flat _) (by omega)
  rw [← Hm.out] at hrun hown1
  have hth := there_own hown1 (m * 4) (by omega)
  have hclr := fun ty => run_clear1 W1 ty g (m * 4) (cap - m) hth
  obtain ⟨hown2, hb2⟩ := own_behind hown1 (m * 4) [.int .i64 0, .int .i64 0, .int .i64 0, .bool false] (Nat.le_refl _) (by simp; omega)
  obtain ⟨W2, HW2⟩ := hid_exP (W1.setCells g (m * 4) [.int .i64 0, .int .i64 0, .int .i64 0, .bool false])
  rw [← HW2.out] at hclr hown2 hb2
  have HO2 : Hid (NOwn 47 W2 base (.slice (some ⟨g, 0, none⟩) m cap) (L.eraseIdx i)) := by
    refine ⟨?_, fun r hr => HO.out.2 r (List.mem_of_mem_eraseIdx hr)⟩
    rw [List.eraseIdx_eq_take_drop_succ, List.flatMap_append, List.length_append, List.length_take, List.length_drop, Nat.min_eq_left (by omega), ← Hm.out]
    exact hown2
  have HB2 : Hid (Below base w W2) := (((Below.refl base w).drew).grown hgr1 hbase (fun k e => by cases e; exact hg)).trans hb2
  clear hnd hown1 hgr1 hth hown2 hb2 hdr hinf hz0 hz1 hz2 HW2 Hm
  have hne : ((i : Int) == (i : Int) + 1) = false := by rw [beq_eq_false_iff_ne]; omega
  generalize L.length = n at *
  go_enter Tryz.func56, Tryz.ntmps56
  go_wp2_with fail
  go_region_law (refine wp_app_runP (.tmp 22) (.tmp 25) 27 27 rfl rfl _ _ _ (by simp [Act.eval, Act.put]) (by simp [Act.eval, Act.put]) hrun ?_)
  go_wp2_with fail
  go_ret
  exact ⟨_, rfl, HO2.out, HB2.out⟩
end Go.Proofs.YthicmbjiblbcmaaGreat

/- The contracts of without and After. -/
namespace Go.Proofs.YthicmbjiblbcmaaGreat
open Go.RowKit Go.Shelf

/-- Runs without those of some files, and what is left of a count; none: a file is none of theirs, or named twice. -/
def outF (L : List Rn) (c : Int) : List Int → Option (List Rn × Int)
  | [] => some (L, c)
  | f :: fs => match L.findIdx? (fun r => decide (r.f = f)) with
    | none => none
    | some k => outF (L.eraseIdx k) (c - min c ((L[k]?.map Rn.c).getD 0)) fs
theorem outF_some {L : List Rn} {c f : Int} {fs : List Int} {k : Nat} (hk : k < L.length) (h1 : L[k].f = f) (h2 : ∀ j (hj : j < L.length), j < k → L[j].f ≠ f) : outF L c (f :: fs) = outF (L.eraseIdx k) (c - min c L[k].c) fs := by
  have e : L.findIdx? (fun r => decide (r.f = f)) = some k := by
    rw [List.findIdx?_eq_some_iff_getElem]
    exact ⟨hk, by simpa using h1, fun j hj => by simpa using h2 j (by omega) hj⟩
  rw [outF, e]
  simp [hk]
theorem outF_none {L : List Rn} {c f : Int} {fs : List Int} (h : ∀ r ∈ L, r.f ≠ f) : outF L c (f :: fs) = none := by
  have e : L.findIdx? (fun r => decide (r.f = f)) = none := by
    rw [List.findIdx?_eq_none_iff]
    intro r hr
    simpa using h r hr
  rw [outF, e]
/-- What without answers. -/
def WoPost (x : Option (List Rn × Int)) (w : World) (e : Ending) (w' : World) : Prop := Below w.heap.size w w' ∧ match x with
  | none => e = .returned (.tuple #[.slice none 0 0, .bool false])
  | some (M, c) => ∃ v', e = .returned (.tuple #[v', .bool (decide (c = 0))]) ∧ NOwn 47 w' w.heap.size v' M
set_option maxRecDepth 100000 in
set_option maxHeartbeats 2000000 in
theorem without_any (v fv : Value) (L : List Rn) (fs : List Int) (c : Int) (w : World) (hR : NReads w v L) (hF : ReadsP w fv fs) (h64 : L.length ≤ 64) (hp : ∀ r ∈ L, 1 ≤ r.c) (hc0 : 0 ≤ c) (hc1 : c ≤ 9223372036854775807) :
    Calls Tryz.prog 32 #[v, fv, .int .i64 c] w (WoPost (outF L c fs) w) := by
  have HR : Hid (NReads w v L) := hR
  have HF : Hid (ReadsP w fv fs) := hF
  have HP : Hid (∀ r ∈ L, 1 ≤ r.c) := hp
  obtain ⟨a, cap, rfl, hl1, hl2⟩ := hR.form
  obtain ⟨fa, fc, rfl, hfl⟩ := hF.form
  clear hR hF hp
  unfold maxLen at hl2 hfl
  obtain ⟨X, HX⟩ := hid_exP (outF L c fs)
  rw [← HX.out]
  go_enter Tryz.func32, Tryz.ntmps32
  go_wp2_with fail
  refine (clone_any _ L _ HR.out (by omega)).mono ?_
  rintro e w1 ⟨v1, rfl, hO1, hb1⟩
  have HO1 : Hid (NOwn 47 w1 w.heap.size v1 L) := hO1
  have HB1 : Hid (Below w.heap.size w w1) := hb1
  clear hO1 hb1
  go_wp2_with fail
  go_loopw [2, 8, 16] (fun cv lv i wr => ∃ (k : Nat) (M : List Rn) (d : Int), k ≤ fs.length ∧ i = .int .i64 (k : Int) ∧ cv = .int .i64 d ∧ 0 ≤ d ∧ d ≤ 9223372036854775807 ∧ M.length ≤ 64 ∧ Hid (NOwn 47 wr w.heap.size lv M) ∧ Hid (∀ r ∈ M, 1 ≤ r.c) ∧ Hid (X = outF M d (fs.drop k)) ∧ Hid (Below w.heap.size w wr)) (fun _ _ i _ => fs.length - (intOf i).toNat)
  case atStart => exact ⟨0, L, c, by omega, rfl, rfl, hc0, hc1, h64, HO1.out, HP.out, HX.out, HB1.out⟩
  case round =>
    clear HO1 HB1
    obtain ⟨k, M, d, hk, rfl, rfl, hd0, hd1, hM64, HO, HPM, HXM, HB⟩ := hrel
    obtain ⟨ma, mc, rfl, hml1, hml2⟩ := HO.out.reads.form
    unfold maxLen at hml2
    by_cases hlt : k < fs.length
    · obtain ⟨fb, fo, rfl, hfb, hcell⟩ := (HF.out.below HB.out).at k hlt
      obtain ⟨f, Hf⟩ := hid_exP fs[k]
      rw [← Hf.out] at hcell
      unfold ic at hcell
      have HXk : Hid (X = outF M d (f :: fs.drop (k + 1))) := by
        unfold Hid
        rw [HXM.out, Hf.out, List.drop_eq_getElem_cons hlt]
      go_wp2_with fail
      refine (place_any _ M f _ HO.out.reads).mono ?_
      rintro e w2 ⟨hb2, ⟨j, hj, rfl, hj1, hj2⟩ | ⟨rfl, hn⟩⟩
      · have HB2 : Hid (Below w.heap.size w w2) := HB.out.trans (hb2.mono HB.out.size)
        have HO2 : Hid (NOwn 47 w2 w.heap.size (.slice ma M.length mc) M) := HO.out.below hb2
        obtain ⟨mb, mo, rfl, hmb⟩ := HO2.out.reads.ptr (by omega)
        obtain ⟨r, Hr⟩ := hid_exP M[j]
        obtain ⟨c0, c1, c2, c3⟩ := HO2.out.reads.four hj r Hr.out
        have hrc : 1 ≤ r.c := by rw [Hr.out]; exact HPM.out _ (List.getElem_mem hj)
        have hrk : r.c ≤ 9223372036854775807 := by rw [Hr.out]; exact (HO2.out.2 _ (List.getElem_mem hj)).c2
        have HXn : Hid (X = outF (M.eraseIdx j) (d - min d r.c) (fs.drop (k + 1))) := by
          unfold Hid
          rw [HXk.out, outF_some hj hj1 hj2, ← Hr.out]
        have hbw : w.heap.size ≤ w2.heap.size := HB2.out.size
        obtain ⟨z, Hz⟩ := hid_exP (min d r.c)
        have hz : min d r.c = z := Hz.out.symm
        have hz0 : 0 ≤ z := by rw [Hz.out]; omega
        have hz1 : z ≤ d := by rw [Hz.out]; omega
        rw [hz] at HXn
        clear hb2 hj1 hj2 c0 c1 c3 hcell
        go_wp2_with fail
        refine (delete_any _ M j w.heap.size _ HO2.out hj (by omega) hbw).mono ?_
        rintro e w3 ⟨v3, rfl, hO3, hb3⟩
        have HO3 : Hid (NOwn 47 w3 w.heap.size v3 (M.eraseIdx j)) := hO3
        have HB3 : Hid (Below w.heap.size w w3) := HB2.out.trans hb3
        have HPn : Hid (∀ r ∈ M.eraseIdx j, 1 ≤ r.c) := fun r hr => HPM.out r (List.mem_of_mem_eraseIdx hr)
        have hln : (M.eraseIdx j).length ≤ 64 := Nat.le_trans (List.length_eraseIdx_le _ _) hM64
        clear hO3 hb3 c2 hbw
        go_wp2_with fail
        go_roundw
        case rel => exact ⟨k + 1, M.eraseIdx j, d - z, by omega, by go_num, rfl, by omega, by omega, hln, HO3.out, HPn.out, HXn.out, HB3.out⟩
        case measure => simp [intOf]; omega
      · have HB2 : Hid (Below w.heap.size w w2) := HB.out.trans (hb2.mono HB.out.size)
        have HXn : Hid (X = none) := by
          unfold Hid
          rw [HXk.out, outF_none hn]
        clear hb2 hn hcell
        go_wp2_with fail
        go_ret2
        rw [HXn.out]
        exact ⟨HB2.out, rfl⟩
    · have HXn : Hid (X = some (M, d)) := by
        unfold Hid
        rw [HXM.out, List.drop_of_length_le (by omega)]
        rfl
      go_wp2_with fail
      go_ret2
      rw [HXn.out]
      exact ⟨HB.out, _, rfl, HO.out⟩
/-- What After answers: the runs, or none. -/
def aftF (L : List Rn) (fs : List Int) (lv f c : Int) : Option (List Rn) :=
  if okB L = true ∧ 1 ≤ f ∧ 0 ≤ c ∧ (0 ≤ lv ∧ lv ≤ 3) then
    match outF L c fs with
    | none => none
    | some (M, d) => if d = 0 ∧ (∀ r ∈ M, r.f ≠ f) ∧ okB (if 0 < c then M ++ [⟨f, lv, c, false⟩] else M) = true then some (if 0 < c then M ++ [⟨f, lv, c, false⟩] else M) else none
  else none
def AfPost (x : Option (List Rn)) (w : World) (e : Ending) (w' : World) : Prop := Below w.heap.size w w' ∧ match x with
  | none => e = .returned (.tuple #[.slice none 0 0, .int .i64 1])
  | some M => ∃ v', e = .returned (.tuple #[v', .int .i64 0]) ∧ NOwn 47 w' w.heap.size v' M
end Go.Proofs.YthicmbjiblbcmaaGreat

/- The contract of After. -/
namespace Go.Proofs.YthicmbjiblbcmaaGreat
open Go.RowKit Go.Shelf

theorem aft_no {L : List Rn} {fs : List Int} {lv f c : Int} (h : ¬ (okB L = true ∧ 1 ≤ f ∧ 0 ≤ c ∧ (0 ≤ lv ∧ lv ≤ 3))) : aftF L fs lv f c = none := by unfold aftF; rw [if_neg h]
theorem aft_out {L : List Rn} {fs : List Int} {lv f c : Int} (h : okB L = true ∧ 1 ≤ f ∧ 0 ≤ c ∧ (0 ≤ lv ∧ lv ≤ 3)) (ho : outF L c fs = none) : aftF L fs lv f c = none := by unfold aftF; rw [if_pos h, ho]
theorem aft_some {L : List Rn} {fs : List Int} {lv f c : Int} (h : okB L = true ∧ 1 ≤ f ∧ 0 ≤ c ∧ (0 ≤ lv ∧ lv ≤ 3)) {M : List Rn} {d : Int} (ho : outF L c fs = some (M, d)) : aftF L fs lv f c = if d = 0 ∧ (∀ r ∈ M, r.f ≠ f) ∧ okB (if 0 < c then M ++ [⟨f, lv, c, false⟩] else M) = true then some (if 0 < c then M ++ [⟨f, lv, c, false⟩] else M) else none := by unfold aftF; rw [if_pos h, ho]
theorem outF_sub {fs : List Int} : ∀ {L : List Rn} {c : Int} {M : List Rn} {d : Int}, outF L c fs = some (M, d) → M.Sublist L ∧ M.length + fs.length = L.length := by
  induction fs with
  | nil => intro L c M d h; simp [outF] at h; obtain ⟨rfl, _⟩ := h; exact ⟨List.Sublist.refl _, by simp⟩
  | cons f fs ih =>
    intro L c M d h
    rw [outF] at h
    split at h
    · cases h
    · rename_i k hk
      obtain ⟨h1, h2⟩ := ih h
      have hkl := (List.findIdx?_eq_some_iff_getElem.1 hk).1
      refine ⟨h1.trans (List.eraseIdx_sublist _ _), ?_⟩
      rw [List.length_eraseIdx_of_lt hkl] at h2
      simp
      omega
set_option maxRecDepth 100000 in
set_option maxHeartbeats 4000000 in
theorem after_any (v fv : Value) (L : List Rn) (fs : List Int) (lv f c : Int) (w : World) (hR : NReads w v L) (hF : ReadsP w fv fs) (hl0 : -9223372036854775808 ≤ lv) (hl9 : lv ≤ 9223372036854775807) (hf1 : f ≤ 9223372036854775807) (hc1 : c ≤ 9223372036854775807) :
    Calls Tryz.prog 19 #[v, .agg #[fv, .int .i64 lv], .int .i64 f, .int .i64 c] w (AfPost (aftF L fs lv f c) w) := by
  have HR : Hid (NReads w v L) := hR
  have HF : Hid (ReadsP w fv fs) := hF
  obtain ⟨a, cap, rfl, hl1, hl2⟩ := hR.form
  obtain ⟨fa, fc, rfl, hfl⟩ := hF.form
  clear hR hF
  unfold maxLen at hl2 hfl
  obtain ⟨X, HX⟩ := hid_exP (aftF L fs lv f c)
  rw [← HX.out]
  obtain ⟨o, Ho⟩ := hid_exP (okB L)
  go_enter Tryz.func19, Tryz.ntmps19
  go_wp2_with fail
  obtain ⟨w0, HW0⟩ := hid_exP (w.alloc (.cells #[.slice fa fs.length fc, .int .i64 lv] 38))
  have HB0 : Hid (Below w.heap.size w w0) := by rw [HW0.out]; exact (Below.refl _ _).alloc (Nat.le_refl _) _
  have HX0 : Hid (w0.heap[w.heap.size]? = some (.cells #[.slice fa fs.length fc, .int .i64 lv] 38)) := by rw [HW0.out]; exact heap_alloc_new _ _
  rw [← HW0.out]
  clear HW0
  refine (right_anyP _ L _ (HR.out.below HB0.out)).mono ?_
  rw [← Ho.out]
  rintro e w1 ⟨rfl, hb1⟩
  have HB1 : Hid (Below w.heap.size w w1) := HB0.out.trans (hb1.mono HB0.out.size)
  have HX1 : Hid (w1.heap[w.heap.size]? = some (.cells #[.slice fa fs.length fc, .int .i64 lv] 38)) := (hb1.block _ (Array.getElem?_eq_some_iff.1 HX0.out).1).trans HX0.out
  clear hb1 HX0 HB0
  cases o with
  | false =>
    have HN : Hid (X = none) := by
      unfold Hid
      rw [HX.out, aft_no (by rw [← Ho.out]; simp)]
    go_wp2_with fail
    go_ret2
    rw [HN.out]
    exact ⟨HB1.out, rfl⟩
  | true =>
    have HOK : Hid (okR L) := okB_iff.1 Ho.out.symm
    have h64 : L.length ≤ 64 := HOK.out.1
    by_cases hf : 1 ≤ f
    rotate_left
    · have HN : Hid (X = none) := by
        unfold Hid
        rw [HX.out, aft_no (fun h => hf h.2.1)]
      go_wp2_with fail
      go_ret2
      rw [HN.out]
      exact ⟨HB1.out, rfl⟩
    by_cases hc : 0 ≤ c
    rotate_left
    · have HN : Hid (X = none) := by
        unfold Hid
        rw [HX.out, aft_no (fun h => hc h.2.2.1)]
      go_wp2_with fail
      go_ret2
      rw [HN.out]
      exact ⟨HB1.out, rfl⟩
    have f0 := (cell_rowP HX1.out 0 (by simp)).1
    have f1 := (cell_rowP HX1.out 1 (by simp)).1
    simp only [List.getElem_toArray, List.getElem_cons_zero, List.getElem_cons_succ] at f0 f1
    by_cases hl : 0 ≤ lv ∧ lv ≤ 3
    rotate_left
    · have HN : Hid (X = none) := by
        unfold Hid
        rw [HX.out, aft_no (fun h => hl h.2.2.2)]
      go_wp2_with fail
      refine (isLevel_any _ _).mono ?_
      rw [decide_eq_false hl]
      rintro e w2 ⟨rfl, hw2⟩
      subst w2
      clear hl
      go_wp2_with fail
      go_ret2
      rw [HN.out]
      exact ⟨HB1.out, rfl⟩
    have HALL : Hid (okB L = true ∧ 1 ≤ f ∧ 0 ≤ c ∧ (0 ≤ lv ∧ lv ≤ 3)) := ⟨Ho.out.symm, hf, hc, hl⟩
    go_wp2_with fail
    refine (isLevel_any _ _).mono ?_
    rw [decide_eq_true hl]
    rintro e w2 ⟨rfl, hw2⟩
    subst w2
    clear hl
    go_wp2_with fail
    refine (without_any _ _ L fs c _ (HR.out.below HB1.out) (HF.out.below HB1.out) h64 (fun r hr => (HOK.out.2.1 r hr).2.2.2) hc hc1).mono ?_
    obtain ⟨O, HO⟩ := hid_exP (outF L c fs)
    rw [← HO.out]
    cases O with
    | none =>
      rintro e w3 ⟨hb3, rfl⟩
      have HB3 : Hid (Below w.heap.size w w3) := HB1.out.trans (hb3.mono HB1.out.size)
      have HN : Hid (X = none) := by
        unfold Hid
        rw [HX.out, aft_out HALL.out HO.out.symm]
      clear hb3
      go_wp2_with fail
      go_ret2
      rw [HN.out]
      exact ⟨HB3.out, rfl⟩
    | some Md =>
      obtain ⟨M, d⟩ := Md
      rintro e w3 ⟨hb3, v3, rfl, hO3⟩
      have HB3 : Hid (Below w.heap.size w w3) := HB1.out.trans (hb3.mono HB1.out.size)
      have HO3 : Hid (NOwn 47 w3 w.heap.size v3 M) := hO3.mono HB1.out.size
      have HX3 : Hid (w3.heap[w.heap.size]? = some (.cells #[.slice fa fs.length fc, .int .i64 lv] 38)) := (hb3.block _ (Array.getElem?_eq_some_iff.1 HX1.out).1).trans HX1.out
      have HE : Hid _ := HX.out.trans (aft_some HALL.out HO.out.symm)
      have hM64 : M.length ≤ 64 := Nat.le_trans (outF_sub HO.out.symm).1.length_le h64
      obtain ⟨ma, mc, rfl, hml1, hml2⟩ := hO3.reads.form
      unfold maxLen at hml2
      clear hb3 hO3 f0 f1
      by_cases hd : d = 0
      rotate_left
      · rw [decide_eq_false hd]
        have HN : Hid (X = none) := by
          unfold Hid
          rw [HE.out, if_neg (fun h => hd h.1)]
        clear hd
        go_wp2_with fail
        go_ret2
        rw [HN.out]
        exact ⟨HB3.out, rfl⟩
      rw [decide_eq_true hd]
      have HD : Hid (d = 0) := hd
      clear hd
      go_wp2_with fail
      refine (place_any _ M f _ HO3.out.reads).mono ?_
      rintro e w4 ⟨hb4, ⟨j, hj, rfl, hj1, hj2⟩ | ⟨rfl, hn⟩⟩
      · have HB4 : Hid (Below w.heap.size w w4) := HB3.out.trans (hb4.mono HB3.out.size)
        have HN : Hid (X = none) := by
          unfold Hid
          rw [HE.out, if_neg (fun h => h.2.1 _ (List.getElem_mem hj) hj1)]
        clear hb4 hj1 hj2
        go_wp2_with fail
        go_ret2
        rw [HN.out]
        exact ⟨HB4.out, rfl⟩
      · have HB4 : Hid (Below w.heap.size w w4) := HB3.out.trans (hb4.mono HB3.out.size)
        have HO4 : Hid (NOwn 47 w4 w.heap.size (.slice ma M.length mc) M) := HO3.out.below hb4
        have HX4 : Hid (w4.heap[w.heap.size]? = some (.cells #[.slice fa fs.length fc, .int .i64 lv] 38)) := (hb4.block _ (Array.getElem?_eq_some_iff.1 HX3.out).1).trans HX3.out
        have HNF : Hid (∀ r ∈ M, r.f ≠ f) := hn
        clear hb4 hn
        by_cases hc9 : 0 < c
        · obtain ⟨M1, HM1⟩ := hid_exP (M ++ [⟨f, lv, c, false⟩])
          have HE2 : Hid (X = if okB M1 = true then some M1 else none) := by
            unfold Hid
            rw [HE.out, if_pos hc9, ← HM1.out]
            by_cases ho : okB M1 = true
            · rw [if_pos ho, if_pos ⟨HD.out, HNF.out, ho⟩]
            · rw [if_neg ho, if_neg (fun h => ho h.2.2)]
          have hrk : RnOk ⟨f, lv, c, false⟩ := ⟨by dsimp only; omega, hf1, hl0, hl9, by dsimp only; omega, hc1⟩
          obtain ⟨v6, w6, hrun, hown6, hb6⟩ := run_appN (S := 27) (T := 47) Tryz.underlying27 infoN 27 w.heap.size _ M ⟨f, lv, c, false⟩ M1 HM1.out HO4.out hrk (by omega) HB4.out.size
          dsimp only at hrun
          have HO6 : Hid (NOwn 47 w6 w.heap.size v6 M1) := hown6
          have HB6 : Hid (Below w.heap.size w w6) := HB4.out.trans hb6
          have f1 := (cell_rowP HX4.out 1 (by simp)).1
          simp only [List.getElem_toArray, List.getElem_cons_zero, List.getElem_cons_succ] at f1
          clear hown6 hb6 hrk
          go_wp2_with (at_builtin; refine wpList_app_runP rfl _ _ _ _ rfl rfl _ _ _ rfl rfl hrun ?_)
          clear hrun f1
          obtain ⟨na, nc, rfl, hnl1, hnl2⟩ := HO6.out.reads.form
          go_wp2_with fail
          refine (right_anyP _ M1 _ HO6.out.reads).mono ?_
          obtain ⟨p, Hp⟩ := hid_exP (okB M1)
          rw [← Hp.out] at HE2 ⊢
          rintro e w7 ⟨rfl, hb7⟩
          have HB7 : Hid (Below w.heap.size w w7) := HB6.out.trans (hb7.mono HB6.out.size)
          have HO7 : Hid (NOwn 47 w7 w.heap.size (.slice na M1.length nc) M1) := HO6.out.below hb7
          clear hb7
          cases p with
          | false =>
            have HN : Hid (X = none) := HE2.out.trans (by rw [if_neg (by simp)])
            go_wp2_with fail
            go_ret2
            rw [HN.out]
            exact ⟨HB7.out, rfl⟩
          | true =>
            have HN : Hid (X = some M1) := HE2.out.trans (by rw [if_pos rfl])
            go_wp2_with fail
            go_ret2
            rw [HN.out]
            exact ⟨HB7.out, _, rfl, HO7.out⟩
        · have HE2 : Hid (X = if okB M = true then some M else none) := by
            unfold Hid
            rw [HE.out, if_neg hc9]
            by_cases ho : okB M = true
            · rw [if_pos ho, if_pos ⟨HD.out, HNF.out, ho⟩]
            · rw [if_neg ho, if_neg (fun h => ho h.2.2)]
          go_wp2_with fail
          refine (right_anyP _ M _ HO4.out.reads).mono ?_
          obtain ⟨p, Hp⟩ := hid_exP (okB M)
          rw [← Hp.out] at HE2 ⊢
          rintro e w7 ⟨rfl, hb7⟩
          have HB7 : Hid (Below w.heap.size w w7) := HB4.out.trans (hb7.mono HB4.out.size)
          have HO7 : Hid (NOwn 47 w7 w.heap.size (.slice ma M.length mc) M) := HO4.out.below hb7
          clear hb7
          cases p with
          | false =>
            have HN : Hid (X = none) := HE2.out.trans (by rw [if_neg (by simp)])
            go_wp2_with fail
            go_ret2
            rw [HN.out]
            exact ⟨HB7.out, rfl⟩
          | true =>
            have HN : Hid (X = some M) := HE2.out.trans (by rw [if_pos rfl])
            go_wp2_with fail
            go_ret2
            rw [HN.out]
            exact ⟨HB7.out, _, rfl, HO7.out⟩
end Go.Proofs.YthicmbjiblbcmaaGreat

/- What comes of a task that is offered: plain facts. -/
namespace Go.Proofs.YthicmbjiblbcmaaGreat
open Go.RowKit Go.Shelf

/-- The count of the run that has a file. -/
def cntO (L : List Rn) (f : Int) : Int := ((L.find? fun r => decide (r.f = f)).map Rn.c).getD 0
def sumC (L : List Rn) (fs : List Int) : Int := (fs.map (cntO L)).sum
def Uq (L : List Rn) : Prop := L.Pairwise (fun a b => a.f ≠ b.f)
theorem Uq.eq {L : List Rn} (h : Uq L) {a b : Rn} (ha : a ∈ L) (hb : b ∈ L) (e : a.f = b.f) : a = b := by
  obtain ⟨i, hi, rfl⟩ := List.getElem_of_mem ha
  obtain ⟨j, hj, rfl⟩ := List.getElem_of_mem hb
  have hp := List.pairwise_iff_getElem.1 h
  rcases Nat.lt_trichotomy i j with h1 | h1 | h1
  · exact absurd e (hp i j hi hj h1)
  · subst h1; rfl
  · exact absurd e.symm (hp j i hj hi h1)
theorem okR_uq {L : List Rn} (h : okR L) : Uq L := h.2.2.imp (fun h => h.1)
theorem cntO_eq {L : List Rn} (hu : Uq L) {r : Rn} (hr : r ∈ L) : cntO L r.f = r.c := by
  unfold cntO
  cases hf : L.find? (fun x => decide (x.f = r.f)) with
  | none => exact absurd (List.find?_eq_none.1 hf r hr) (by simp)
  | some x =>
    have h1 := List.find?_some hf
    have h2 := List.mem_of_find?_eq_some hf
    have : x = r := hu.eq h2 hr (by simpa using h1)
    subst this
    rfl
theorem mem_erase {L : List Rn} (hu : Uq L) {k : Nat} (hk : k < L.length) (r : Rn) : r ∈ L.eraseIdx k ↔ r ∈ L ∧ r.f ≠ L[k].f := by
  have hp := List.pairwise_iff_getElem.1 hu
  rw [List.mem_eraseIdx_iff_getElem]
  constructor
  · rintro ⟨i, hi, hik, rfl⟩
    refine ⟨List.getElem_mem _, fun e => ?_⟩
    rcases Nat.lt_or_gt_of_ne hik with h | h
    · exact hp i k hi hk h e
    · exact hp k i hk hi h e.symm
  · rintro ⟨hr, hne⟩
    obtain ⟨i, hi, rfl⟩ := List.getElem_of_mem hr
    exact ⟨i, hi, fun e => hne (by subst e; rfl), rfl⟩
theorem outF_spec : ∀ (fs : List Int) (L : List Rn) (c : Int), Uq L → fs.Nodup → (∀ f ∈ fs, ∃ r ∈ L, r.f = f) → 0 ≤ c → (∀ r ∈ L, 0 ≤ r.c) →
    ∃ M d, outF L c fs = some (M, d) ∧ (∀ r, r ∈ M ↔ r ∈ L ∧ r.f ∉ fs) ∧ 0 ≤ d ∧ (c ≤ sumC L fs → d = 0)
  | [], L, c, _, _, _, hc, _ => ⟨L, c, rfl, by simp, hc, fun h => by simp [sumC] at h; omega⟩
  | f :: fs, L, c, hu, hn, hm, hc, hp => by
    obtain ⟨r, hr, hrf⟩ := hm f (List.mem_cons_self ..)
    obtain ⟨i, hi, rfl⟩ := List.getElem_of_mem hr
    have hpw := List.pairwise_iff_getElem.1 hu
    have hfirst : ∀ j (hj : j < L.length), j < i → L[j].f ≠ f := fun j hj hji e => hpw j i hj hi hji (by rw [e, hrf])
    have hn2 := List.nodup_cons.1 hn
    have hu2 : Uq (L.eraseIdx i) := List.Pairwise.sublist (List.eraseIdx_sublist _ _) hu
    have hm2 : ∀ g ∈ fs, ∃ r ∈ L.eraseIdx i, r.f = g := by
      intro g hg
      obtain ⟨x, hx, hxf⟩ := hm g (List.mem_cons_of_mem _ hg)
      refine ⟨x, (mem_erase hu hi x).2 ⟨hx, fun e => ?_⟩, hxf⟩
      rw [hxf, hrf] at e
      subst e
      exact hn2.1 hg
    have hci := hp L[i] hr
    obtain ⟨M, d, h1, h2, h3, h4⟩ := outF_spec fs (L.eraseIdx i) (c - min c L[i].c) hu2 hn2.2 hm2 (by omega) (fun r hr => hp r (List.mem_of_mem_eraseIdx hr))
    refine ⟨M, d, by rw [outF_some hi hrf hfirst]; exact h1, fun x => ?_, h3, fun hs => h4 ?_⟩
    · rw [h2, mem_erase hu hi, List.mem_cons, hrf]
      constructor
      · rintro ⟨⟨a1, a2⟩, a3⟩; exact ⟨a1, fun h => h.elim a2 a3⟩
      · rintro ⟨a1, a2⟩; exact ⟨⟨a1, fun h => a2 (.inl h)⟩, fun h => a2 (.inr h)⟩
    · have e1 : sumC L (f :: fs) = L[i].c + sumC L fs := by
        unfold sumC
        rw [List.map_cons, List.sum_cons, ← hrf, cntO_eq hu hr]
      have e2 : sumC (L.eraseIdx i) fs = sumC L fs := by
        unfold sumC
        congr 1
        apply List.map_congr_left
        intro g hg
        obtain ⟨x, hx, rfl⟩ := hm2 g hg
        rw [cntO_eq hu2 hx, cntO_eq hu (List.mem_of_mem_eraseIdx hx)]
      rw [e1] at hs
      rw [e2]
      have h0 : 0 ≤ sumC L fs := by
        unfold sumC
        have : ∀ l : List Int, (∀ g ∈ l, g ∈ fs) → 0 ≤ (l.map (cntO L)).sum := by
          intro l
          induction l with
          | nil => intro _; simp
          | cons g l ih =>
            intro hl
            rw [List.map_cons, List.sum_cons]
            have := ih (fun x hx => hl x (List.mem_cons_of_mem _ hx))
            obtain ⟨x, hx, rfl⟩ := hm2 g (hl g (List.mem_cons_self ..))
            rw [cntO_eq hu (List.mem_of_mem_eraseIdx hx)]
            have := hp x (List.mem_of_mem_eraseIdx hx)
            omega
        exact this fs (fun _ h => h)
      omega
/-- Files of what is offered: each once, each a run's. -/
theorem filF_nodup {L : List Rn} (hu : Uq L) (ls : List Int) : (filF ls L).Nodup := by
  unfold filF
  rw [(srt_perm _).nodup_iff]
  unfold pkF
  rw [List.nodup_iff_pairwise_ne, List.pairwise_map]
  exact List.Pairwise.sublist List.filter_sublist hu
theorem filF_in {L : List Rn} (ls : List Int) : ∀ f ∈ filF ls L, ∃ r ∈ L, r.f = f := by
  intro f hf
  obtain ⟨r, hr, _, h⟩ := mem_filF.1 hf
  exact ⟨r, hr, h⟩
/-- A tree without some runs, and with one new run, if its level is left. -/
theorem okR_new {L M : List Rn} (hL : okR L) (hs : M.Sublist L) (hl : M.length < L.length) {f lv n : Int} (hf : 1 ≤ f) (hl0 : 0 ≤ lv) (hl3 : lv ≤ 3) (hn : 0 < n) (hnf : ∀ r ∈ M, r.f ≠ f) (hlv : 0 < lv → ∀ r ∈ M, r.l ≠ lv) : okR (M ++ [⟨f, lv, n, false⟩]) := by
  refine ⟨by have := hL.1; simp; omega, fun r hr => ?_, ?_⟩
  · rcases List.mem_append.1 hr with h | h
    · exact hL.2.1 r (hs.subset h)
    · simp at h
      subst h
      exact ⟨hf, hl0, hl3, by show 1 ≤ n; omega⟩
  · rw [List.pairwise_append]
    refine ⟨hL.2.2.sublist hs, by simp, fun a ha b hb => ?_⟩
    simp at hb
    subst hb
    exact ⟨hnf a ha, fun ⟨h1, h2⟩ => hlv h1 a ha h2⟩
theorem okR_sub {L M : List Rn} (hL : okR L) (hs : M.Sublist L) : okR M := ⟨Nat.le_trans hs.length_le hL.1, fun r hr => hL.2.1 r (hs.subset hr), hL.2.2.sublist hs⟩
theorem stT_none {L : List Rn} : ∀ {k : Nat}, (stT L k).s = false → stT L k = tkZ ∧ ∀ j : Nat, j < k → renF L (j : Int) = 0
  | 0, _ => ⟨rfl, fun j hj => by omega⟩
  | k + 1, h => by
    rw [stT] at h ⊢
    by_cases hc : (stT L k).s = true
    · rw [if_pos hc] at h
      rw [hc] at h
      cases h
    · rw [if_neg hc] at h ⊢
      have hc' : (stT L k).s = false := by simpa using hc
      obtain ⟨_, ih⟩ := stT_none hc'
      unfold renT at h ⊢
      by_cases hr : renF L (k : Int) = 0
      · rw [if_pos hr]
        refine ⟨rfl, fun j hj => ?_⟩
        rcases Nat.lt_or_ge j k with h9 | h9
        · exact ih j h9
        · obtain rfl : j = k := by omega
          exact hr
      · rw [if_neg hr] at h
        cases h
/-- Nothing is offered: nothing is stale, nothing is full. -/
theorem offT_zero {L : List Rn} (hL : okR L) (h : (offT L).s = false) : offT L = tkZ ∧ (∀ r ∈ L, r.s = false) ∧ ∀ lv, fulF L lv = false := by
  unfold offT at h
  have hf : ∀ (b : Bool) (x y : Tk), x.s = true → (if b then x else y).s = false → b = false := fun b x y hx h => by
    cases b with
    | true => simp at h; rw [hx] at h; cases h
    | false => rfl
  have h0 := hf _ _ _ rfl h
  rw [h0] at h
  simp only [Bool.false_eq_true, if_false] at h
  have h1 := hf _ _ _ rfl h
  rw [h1] at h
  simp only [Bool.false_eq_true, if_false] at h
  have h2 := hf _ _ _ rfl h
  rw [h2] at h
  simp only [Bool.false_eq_true, if_false] at h
  obtain ⟨e, hr⟩ := stT_none h
  have hfu : ∀ lv, fulF L lv = false := by
    intro lv
    by_cases e0 : lv = 0
    · subst e0; exact h0
    · by_cases e1 : lv = 1
      · subst e1; exact h1
      · by_cases e2 : lv = 2
        · subst e2; exact h2
        · simp [fulF, e0, e1, e2]
  refine ⟨?_, fun r hr9 => ?_, hfu⟩
  · unfold offT
    rw [h0, h1, h2]
    simpa using e
  · rcases Bool.eq_false_or_eq_true r.s with hs | hs
    · have ho := hL.2.1 r hr9
      have hlt : r.l.toNat < 4 := by have := ho.2.1; have := ho.2.2.1; omega
      have := hr r.l.toNat hlt
      rw [Int.toNat_of_nonneg ho.2.1] at this
      exact absurd this (renF_le (fun x hx => (hL.2.1 x hx).1) r.l hr9 rfl hs).1
    · exact hs
end Go.Proofs.YthicmbjiblbcmaaGreat
