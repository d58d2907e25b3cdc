/- MFm MFn MFo MFp, joined. -/
import Derived.Test.YtoibfepnecppmaaDoorMK13
import Derived.Lib.SliceRun
import Derived.Laws.OwnMore
import Derived.Shelf.SlSortCmp.WholeK
import Derived.Shelf.SlSortCmp.NoneTotal
import Derived.Test.YtoibfepnecppmaaDoorRows
/- manifest: Right. -/
namespace Go.Proofs.YtoibfepnecppmaaDoor
open Go.RowKit

theorem okSt_no {s : St} (h : ¬ (1 ≤ s.lo ∧ s.lo < s.ne ∧ s.ne ≤ 1099511627776 ∧ 0 ≤ s.ma ∧ s.ma ≤ 1099511627776)) : decide (okSt s) = false := decide_eq_false fun q => h ⟨q.1, q.2.1, q.2.2.1, q.2.2.2.1, q.2.2.2.2.1⟩
theorem okSt_yes {s : St} (h : 1 ≤ s.lo ∧ s.lo < s.ne ∧ s.ne ≤ 1099511627776 ∧ 0 ≤ s.ma ∧ s.ma ≤ 1099511627776) : decide (okSt s) = decide (okRs s.ru s.ne) := by
  apply Bool.eq_iff_iff.2
  simp only [decide_eq_true_eq]
  exact ⟨fun q => q.2.2.2.2.2, fun q => ⟨h.1, h.2.1, h.2.2.1, h.2.2.2.1, h.2.2.2.2, q⟩⟩
set_option maxRecDepth 100000 in
set_option maxHeartbeats 4000000 in
theorem right13_any (v : Value) (s : St) (w : World) (h : UR w v s.ru) :
    Calls Tryd.prog 30 #[.agg #[v, .int .i64 s.lo, .int .i64 s.ne, .int .i64 s.ma]] w fun e w' => e = .returned (.bool (decide (okSt s))) ∧ Below w.heap.size w w' := by
  obtain ⟨a, cap, rfl, hm⟩ := h.r.form
  have HU : Hid (UR w (.slice a s.ru.length cap) s.ru) := h
  obtain ⟨N, HN⟩ : ∃ n, Hid (s.ru.length = n) := ⟨_, rfl⟩
  rw [HN.out] at HU ⊢
  clear h hm
  have HNo : Hid (¬ (1 ≤ s.lo ∧ s.lo < s.ne ∧ s.ne ≤ 1099511627776 ∧ 0 ≤ s.ma ∧ s.ma ≤ 1099511627776) → decide (okSt s) = false) := okSt_no
  have HYes : Hid ((1 ≤ s.lo ∧ s.lo < s.ne ∧ s.ne ≤ 1099511627776 ∧ 0 ≤ s.ma ∧ s.ma ≤ 1099511627776) → decide (okSt s) = decide (okRs s.ru s.ne)) := okSt_yes
  obtain ⟨q, Hq⟩ := hid_ex (decide (okSt s))
  rw [← Hq.out] at HNo HYes ⊢
  obtain ⟨p, Hp⟩ := hid_ex (decide (okRs s.ru s.ne))
  rw [← Hp.out] at HYes
  clear Hq
  obtain ⟨ru, lo, ne, ma⟩ := s
  simp only at *
  have hX0 : (w.alloc (.cells #[.slice a N cap, .int .i64 lo, .int .i64 ne, .int .i64 ma] 46)).heap[w.heap.size]? = some (.cells #[.slice a N cap, .int .i64 lo, .int .i64 ne, .int .i64 ma] 46) := heap_alloc_new _ _
  have HB0 : Hid (Below w.heap.size w (w.alloc (.cells #[.slice a N cap, .int .i64 lo, .int .i64 ne, .int .i64 ma] 46))) := (Below.refl _ _).alloc (Nat.le_refl _) _
  obtain ⟨c0, c1, c2, c3⟩ := four13 hX0
  clear hX0
  by_cases h1 : lo < 1
  · have hqf := HNo.out (by omega)
    subst hqf
    go_enter Tryd.func30, Tryd.ntmps30
    go_wp2_with fail
    go_ret
    exact ⟨rfl, HB0.out⟩
  · by_cases h2 : ne ≤ lo
    · have hqf := HNo.out (by omega)
      subst hqf
      go_enter Tryd.func30, Tryd.ntmps30
      go_wp2_with fail
      go_ret
      exact ⟨rfl, HB0.out⟩
    · by_cases h3 : 1099511627776 < ne
      · have hqf := HNo.out (by omega)
        subst hqf
        go_enter Tryd.func30, Tryd.ntmps30
        go_wp2_with fail
        go_ret
        exact ⟨rfl, HB0.out⟩
      · by_cases h4 : 0 ≤ ma
        · by_cases h5 : ma ≤ 1099511627776
          · have hqp := HYes.out ⟨by omega, by omega, by omega, by omega, by omega⟩
            subst hqp
            have HC : Hid (Calls Tryd.prog 42 #[.slice a N cap, .int .i64 ne] (w.alloc (.cells #[.slice a N cap, .int .i64 lo, .int .i64 ne, .int .i64 ma] 46)) fun e w' => e = .returned (.bool q) ∧ Below (w.alloc (.cells #[.slice a N cap, .int .i64 lo, .int .i64 ne, .int .i64 ma] 46)).heap.size (w.alloc (.cells #[.slice a N cap, .int .i64 lo, .int .i64 ne, .int .i64 ma] 46)) w') := by
              have := areRight_any _ ru ne _ (HU.out.below HB0.out)
              rw [← Hp.out] at this
              exact this
            clear HNo HYes
            go_enter Tryd.func30, Tryd.ntmps30
            go_wp2_with fail
            refine HC.out.mono ?_
            rintro e w1 ⟨rfl, hb1⟩
            have HB1 : Hid (Below w.heap.size w w1) := HB0.out.trans (hb1.mono HB0.out.size)
            clear hb1 HC c0 c1 c2 c3
            go_wp2_with fail
            go_ret
            exact ⟨rfl, HB1.out⟩
          · have hqf := HNo.out (by omega)
            subst hqf
            go_enter Tryd.func30, Tryd.ntmps30
            go_wp2_with fail
            go_ret
            exact ⟨rfl, HB0.out⟩
        · have hqf := HNo.out (by omega)
          subst hqf
          go_enter Tryd.func30, Tryd.ntmps30
          go_wp2_with fail
          go_ret
          exact ⟨rfl, HB0.out⟩
end Go.Proofs.YtoibfepnecppmaaDoor

/- manifest: slices.Clone and Delete of runs. -/
namespace Go.Proofs.YtoibfepnecppmaaDoor
open Go.RowKit Go.Shelf

def UOwn (w : World) (base : Nat) (v : Value) (L : List Ru) : Prop := w.ownsRow base 52 3 v L.length (L.flatMap r3L)
theorem fl3_len (L : List Ru) : (L.flatMap r3L).length = L.length * 3 := by
  induction L with
  | nil => rfl
  | cons r L ih => rw [List.flatMap_cons, List.length_append, ih, r3L_len, List.length_cons]; omega
theorem one_fl3 (L : List Ru) : ∀ u ∈ L.flatMap r3L, u.oneCell' = true := by
  intro u hu
  obtain ⟨r, _, h⟩ := List.mem_flatMap.1 hu
  simp [r3L] at h
  rcases h with rfl | rfl | rfl <;> rfl
theorem UOwn.gown {w : World} {base : Nat} {v : Value} {L : List Ru} (h : UOwn w base v L) : GOwn w 52 3 v L.length (L.flatMap r3L) := by
  refine ⟨h.1, ?_⟩
  rcases h.2 with ⟨h1, h2⟩ | ⟨g, cap, cur, hv, _, hw, hc, hm, hs, ht⟩
  · exact .inl ⟨h1, h2⟩
  · exact .inr ⟨g, cap, cur, hv, hw, hc, hm, by omega, ht⟩
theorem gown_ur {w : World} {T : TypeId} {v : Value} {L : List Ru} (h : GOwn w T 3 v L.length (L.flatMap r3L)) : UR w v L := ⟨gown_rur h, fun a n cap e => by
  obtain ⟨a', c', e', h1, h2, _⟩ := GOwn.form h
  rw [e'] at e
  simp only [Value.slice.injEq] at e
  omega, fun n cap e => by
  obtain ⟨a', c', e', _, _, _, h3⟩ := GOwn.form h
  rw [e'] at e
  simp only [Value.slice.injEq] at e
  have := h3 e.1
  omega⟩
theorem news_fl3 {w : World} {b off n cap : Nat} {L : List Ru} (h : RuR w (.slice (some ⟨b, off, none⟩) n cap) L) : ∀ j u, (L.flatMap r3L)[j]? = some u → w.cell? ((⟨b, off, none⟩ : Addr).add j) = some u := by
  intro j u hj
  have hl : j < L.length * 3 := by
    have := (List.getElem?_eq_some_iff.1 hj).1
    rwa [fl3_len] at this
  have hq : j / 3 < L.length := by omega
  have e : j = j / 3 * 3 + j % 3 := by omega
  rw [e, fl3R L (j / 3) (j % 3) hq (by omega)] at hj
  obtain ⟨b', off', e', _, g0, g1, g2⟩ := h.at hq rfl
  simp only [Option.some.injEq, Addr.mk.injEq, and_true] at e'
  obtain ⟨rfl, rfl⟩ := e'
  have ea : (⟨b, off, none⟩ : Addr).add j = ⟨b, off + j, none⟩ := by simp [Addr.add]
  rw [ea]
  have e9 : off + j = off + j / 3 * 3 + j % 3 := by omega
  have hm : j % 3 < 3 := Nat.mod_lt _ (by decide)
  rw [e9]
  generalize j % 3 = m at hj hm ⊢
  rcases (by omega : m = 0 ∨ m = 1 ∨ m = 2) with rfl | rfl | rfl
  · simp [r3L] at hj; rw [← hj]; exact g0
  · simp [r3L] at hj; rw [← hj]; exact g1
  · simp [r3L] at hj; rw [← hj]; exact g2
set_option maxRecDepth 100000 in
theorem clone13_any (v : Value) (L : List Ru) (w : World) (hR : RuR w v L) (h64 : L.length ≤ 1000) : Calls Tryd.prog 43 #[v] w fun e w' => ∃ v', e = .returned v' ∧ UOwn w' w.heap.size v' L ∧ Below w.heap.size w w' := by
  have HR : Hid (RuR w v L) := hR
  obtain ⟨a, cap, rfl, hl2⟩ := hR.form
  clear hR
  have q22 : ∀ (w : World) (a : Option Addr) (n c n' c' : Nat), (binOp .eql 23 (.slice a n c) (.slice none n' c')).run Tryd.prog w = .ok (.bool a.isNone) w := fun w a n c n' c' => Lib.run_eql_slice_nil w _ _ a n c n' c' Tryd.underlying23
  cases a with
  | none =>
    have hL : L = [] := by
      rcases Nat.eq_zero_or_pos L.length with h | h
      · exact List.length_eq_zero_iff.1 h
      · obtain ⟨b, off, e, _⟩ := HR.out.at h rfl
        cases e
    subst hL
    go_enter Tryd.func43, Tryd.ntmps43
    go_wp2_with fail
    go_ret
    exact ⟨_, rfl, World.ownsRow_nil _ _ _ _, Below.refl _ _⟩
  | some ad =>
    obtain ⟨i0, hi, hz0, hz1, hz2⟩ := info_parts infoU13
    have hn : ∀ j u, (L.flatMap r3L)[j]? = some u → (w.alloc (.cells #[] 52)).cell? (ad.add j) = some u := by
      intro j u hj
      rcases Nat.eq_zero_or_pos L.length with h | h
      · rw [List.length_eq_zero_iff.1 h] at hj; simp at hj
      · obtain ⟨b, off, e, _⟩ := HR.out.at h rfl
        cases e
        exact news_fl3 (HR.out.below ((Below.refl _ _).alloc (Nat.le_refl _) _)) j u hj
    have hown0 : (w.alloc (.cells #[] 52)).ownsRow w.heap.size 52 3 (.slice (some ⟨w.heap.size, 0, none⟩) 0 0) 0 [] := ⟨rfl, .inr ⟨w.heap.size, 0, #[], rfl, Nat.le_refl _, heap_alloc_new _ _, Nat.le_refl _, by simp [maxLen], rfl, rfl⟩⟩
    obtain ⟨v', w', hrun, hown', hgrow, _⟩ := run_append_own (P := Tryd.prog) (w.alloc (.cells #[] 52)) w.heap.size 23 23 52 i0 _ 3 24 Tryd.underlying23 hi hz0 hz1 hz2 rfl (by decide) _ 0 [] hown0 ad L.length cap (L.flatMap r3L) (fl3_len L) hn (one_fl3 L) (by unfold maxLen; omega) (by omega) (by simp)
    have HO : Hid (UOwn w' w.heap.size v' L) := by rw [Nat.zero_add, List.nil_append] at hown'; exact hown'
    have HB : Hid (Below w.heap.size w w') := ((Below.refl _ _).alloc (Nat.le_refl _) _).grown hgrow (by simp) (fun k e => by cases e; exact Nat.le_refl _)
    clear hn hown0 hown' hgrow hi hz0 hz1 hz2
    go_enter Tryd.func43, Tryd.ntmps43
    go_wp2_with (at_builtin; refine wpList_app_runG rfl _ _ _ _ rfl rfl _ _ _ rfl rfl hrun ?_)
    clear hrun
    (try go_wp2_with fail)
    go_ret
    exact ⟨_, rfl, HO.out, HB.out⟩
theorem run_clear13 (w : World) (ty : TypeId) (b o c : Nat) (ht : w.there b o 3) :
    (Builtin.clear_ #[23] ty #[.slice (some ⟨b, o, none⟩) 1 c]).run Tryd.prog w = .ok (.tuple #[]) (w.setCells b o [.int .i64 0, .int .i64 0, .int .i64 0]) := by
  have hz : ∀ w, (zeroValue 52).run Tryd.prog w = .ok (.agg #[.int .i64 0, .int .i64 0, .int .i64 0]) w := Tryd.zeroValue52
  have hst := run_storeCells_cells (P := Tryd.prog) b o [.int .i64 0, .int .i64 0, .int .i64 0] 0 w (fun j hj => by simpa using (ht j (by simpa using hj)).1) (fun j hj => by simpa using (ht j (by simpa using hj)).2) (by intro v hv; simp at hv; rcases hv with rfl; rfl)
  simp only [Nat.add_zero] at hst
  have hzc : (Builtin.zeroCells (Value.agg #[.int .i64 0, .int .i64 0, .int .i64 0]).cells 1).toList = [.int .i64 0, .int .i64 0, .int .i64 0] := by first | kernel_rfl | (simp [Builtin.zeroCells, Value.cells]; done) | decide
  simp [Builtin.clear_, run_underlying Tryd.underlying23, hz, hzc, hst]
theorem own_cut13 {w : World} {base g n cap : Nat} {L : List Ru} (h : UOwn w base (.slice (some ⟨g, 0, none⟩) n cap) L) {k : Nat} (hk : k ≤ L.length) : w.ownsRow base 52 3 (.slice (some ⟨g, 0, none⟩) k cap) k ((L.take k).flatMap r3L) := by
  refine ⟨by rw [fl3_len, List.length_take]; congr 1; omega, ?_⟩
  rcases h.2 with ⟨hv, _⟩ | ⟨g', cap', cur, hv, hg, hw, hc, hm, hs, ht⟩
  · cases hv
  · simp at hv
    obtain ⟨rfl, rfl, rfl⟩ := hv
    refine .inr ⟨g, cap, cur, rfl, hg, hw, by omega, hm, hs, ?_⟩
    have e : (L.take k).flatMap r3L = (L.flatMap r3L).take (k * 3) := by
      have e2 : L.flatMap r3L = (L.take k).flatMap r3L ++ (L.drop k).flatMap r3L := by rw [← List.flatMap_append, List.take_append_drop]
      rw [e2, List.take_append_of_le_length (by rw [fl3_len, List.length_take]; omega), List.take_of_length_le (l := (L.take k).flatMap r3L) (by rw [fl3_len, List.length_take]; omega)]
    rw [e, ← ht, List.take_take, Nat.min_eq_left (by omega)]
/-- Cells behind a row's own are set: the row stands. -/
theorem own_behind13 {w : World} {base g n cap : Nat} {xs : List Value} {T : TypeId} (h : w.ownsRow base T 3 (.slice (some ⟨g, 0, none⟩) n cap) n xs) (o : Nat) (vs : List Value) (ho : n * 3 ≤ o) (hl : o + vs.length ≤ cap * 3) :
    (w.setCells g o vs).ownsRow base T 3 (.slice (some ⟨g, 0, none⟩) n cap) n xs ∧ Below base w (w.setCells g o vs) := by
  rcases h.2 with ⟨hv, _⟩ | ⟨g', cap', cur, hv, hg, hw, hc, hm, hs, ht⟩
  · cases hv
  · simp at hv
    obtain ⟨rfl, rfl⟩ := hv
    have hW := stW_cells g T vs o w cur hw (by omega)
    obtain ⟨cur', k1, k2, k3, k4⟩ := hW.c
    refine ⟨⟨h.1, .inr ⟨g, cap, cur', rfl, hg, k1, hc, hm, by rw [k2, hs], ?_⟩⟩, hW.b _ hg⟩
    rw [← ht]
    apply List.ext_getElem?
    intro j
    rw [List.getElem?_take, List.getElem?_take]
    split
    · rename_i hj
      rw [Array.getElem?_toList, Array.getElem?_toList]
      exact k3 j (.inl (by omega))
    · rfl
theorem there_own13 {w : World} {base g n cap : Nat} {xs : List Value} {T : TypeId} (h : w.ownsRow base T 3 (.slice (some ⟨g, 0, none⟩) n cap) n xs) (o : Nat) (ho : o + 3 ≤ cap * 3) : w.there g o 3 := by
  rcases h.2 with ⟨hv, _⟩ | ⟨g', cap', cur, hv, hg, hw, hc, hm, hs, ht⟩
  · cases hv
  · simp at hv
    obtain ⟨rfl, rfl⟩ := hv
    exact there_of hw (by omega)
/-- L[c:] -/
theorem usl_from {w : World} {g N cap : Nat} {L : List Ru} (h : UR w (.slice (some ⟨g, 0, none⟩) N cap) L) (hN : L.length = N) {c : Nat} (hc : c ≤ N) :
    ∃ a', (∀ w', (Instr.slice 23 (.slice (some ⟨g, 0, none⟩) N cap) (some (.int .i64 (c : Int))) none none).run Tryd.prog w' = .ok (.slice (some a') (N - c) (cap - c)) w') ∧ ∀ j u, ((L.drop c).flatMap r3L)[j]? = some u → w.cell? (a'.add j) = some u := by
  obtain ⟨h1, h2⟩ := h.c _ _ _ rfl
  unfold maxLen at h2
  obtain ⟨a', ha⟩ : ∃ a', (if cap = c then some (⟨g, 0, none⟩ : Addr) else (some (⟨g, 0, none⟩ : Addr)).map (·.add (c * 3))) = some a' := by split <;> exact ⟨_, rfl⟩
  refine ⟨a', fun w' => ?_, fun j u hj => ?_⟩
  · rw [run_slice_l _ _ _ _ _ undU _ _ (by omega) (by omega), elemU, sizeU]
    show Result.ok (Go.sliced (some ⟨g, 0, none⟩) c N cap 3) w' = _
    unfold Go.sliced
    rw [ha]
  · by_cases e : cap = c
    · have : L.drop c = [] := List.drop_eq_nil_of_le (by omega)
      rw [this] at hj; simp at hj
    · rw [if_neg e] at ha
      simp only [Option.map_some, Option.some.injEq] at ha
      subst ha
      have hs : L.flatMap r3L = (L.take c).flatMap r3L ++ (L.drop c).flatMap r3L := by rw [← List.flatMap_append, List.take_append_drop]
      have h9 := news_fl3 h.r (c * 3 + j) u (by rw [hs, List.getElem?_append_right (by rw [fl3_len, List.length_take]; omega), fl3_len, List.length_take, Nat.min_eq_left (by omega), Nat.add_sub_cancel_left]; exact hj)
      have ea : ((⟨g, 0, none⟩ : Addr).add (c * 3)).add j = (⟨g, 0, none⟩ : Addr).add (c * 3 + j) := by
        have e1 : (⟨g, 0, none⟩ : Addr).add (c * 3) = ⟨g, c * 3, none⟩ := by simp [Addr.add]; omega
        have e2 : (⟨g, 0, none⟩ : Addr).add (c * 3 + j) = ⟨g, c * 3 + j, none⟩ := by simp [Addr.add]; omega
        rw [e1, e2]; simp [Addr.add]
      rw [ea]; exact h9
set_option maxRecDepth 100000 in
set_option maxHeartbeats 2000000 in
theorem delete13_any (v : Value) (L : List Ru) (i : Nat) (base : Nat) (w : World) (hO : UOwn w base v L) (hi : i < L.length) (h64 : L.length ≤ 1000) (hbase : base ≤ w.heap.size) :
    Calls Tryd.prog 45 #[v, .int .i64 (i : Int), .int .i64 ((i : Int) + 1)] w fun e w' => ∃ v', e = .returned v' ∧ UOwn w' base v' (L.eraseIdx i) ∧ Below base w w' := by
  have HO : Hid (UOwn w base v L) := hO
  obtain ⟨g, cap, rfl, hg, hgl, hcap, hm⟩ : ∃ g cap, v = .slice (some ⟨g, 0, none⟩) L.length cap ∧ base ≤ g ∧ g < w.heap.size ∧ L.length ≤ cap ∧ cap ≤ maxLen := by
    have hlt := World.ownsRow.lt hO
    rcases hO.2 with ⟨_, h1⟩ | ⟨g, cap, cur, hv, hg, hw, hc, hm, _⟩
    · omega
    · exact ⟨g, cap, hv, hg, (hlt g (by rw [hv]; rfl)).2, hc, hm⟩
  clear hO
  unfold maxLen at hm
  obtain ⟨x1, hx1⟩ : ∃ x, ∀ w', (Instr.slice 23 (.slice (some ⟨g, 0, none⟩) L.length cap) (some (.int .i64 (i : Int))) (some (.int .i64 ((i : Int) + 1))) (some (.int .i64 (L.length : Int)))).run Tryd.prog w' = .ok x w' :=
    ⟨Go.sliced (some ⟨g, 0, none⟩) (i : Int).toNat ((i : Int) + 1).toNat (L.length : Int).toNat 3, fun w' => by
      rw [run_slice_lhm _ _ _ _ _ undU _ _ _ _ _ _ (by omega) (by omega) (by omega) (by omega), elemU, sizeU]
      rfl⟩
  have hup : ∀ w', (Instr.slice 23 (.slice (some ⟨g, 0, none⟩) L.length cap) none (some (.int .i64 (i : Int))) none).run Tryd.prog w' = .ok (.slice (some ⟨g, 0, none⟩) i cap) w' := fun w' => by
    rw [run_slice_h _ _ _ _ _ undU _ _ (by omega) (by omega), elemU, sizeU]
    show Result.ok (Go.sliced (some ⟨g, 0, none⟩) 0 i cap 3) w' = _
    unfold Go.sliced
    congr 2
    split <;> simp [Addr.add]
  obtain ⟨da, hfr, hdr⟩ := usl_from (gown_ur HO.out.gown) rfl (c := i + 1) (by omega)
  have hfr2 : ∀ w', (Instr.slice 23 (.slice (some ⟨g, 0, none⟩) L.length cap) (some (.int .i64 ((i : Int) + 1))) none none).run Tryd.prog w' = .ok (.slice (some da) (L.length - (i + 1)) (cap - (i + 1))) w' := hfr
  clear hfr
  obtain ⟨m, Hm⟩ := hid_ex (i + (L.length - (i + 1)))
  have hmL : m + 1 = L.length := by rw [Hm.out]; omega
  have hcl : ∀ w', (Instr.slice 23 (.slice (some ⟨g, 0, none⟩) m cap) (some (.int .i64 (m : Int))) (some (.int .i64 (L.length : Int))) none).run Tryd.prog w' = .ok (.slice (some ⟨g, m * 3, none⟩) 1 (cap - m)) w' := fun w' => by
    rw [run_slice_lh _ _ _ _ _ undU _ _ _ _ (by omega) (by omega) (by omega), elemU, sizeU]
    show Result.ok (Go.sliced (some ⟨g, 0, none⟩) m L.length cap 3) w' = _
    unfold Go.sliced
    rw [if_neg (by omega), show L.length - m = 1 by omega]
    congr 2
    simp [Addr.add]
    omega
  obtain ⟨i0, hinf, hz0, hz1, hz2⟩ := info_parts infoU13
  obtain ⟨W1, hrun, hown1, hgr1⟩ := run_append_fits (P := Tryd.prog) w.drew base 23 23 52 i0 3 Tryd.underlying23 hinf hz1 g i cap ((L.take i).flatMap r3L) (own_cut13 HO.out (by omega)) da (L.length - (i + 1)) (cap - (i + 1)) ((L.drop (i + 1)).flatMap r3L) (by rw [fl3_len, List.length_drop]) (fun j u hj => hdr j u hj) (one_fl3 _) (by omega)
  rw [← Hm.out] at hrun hown1
  have hth := there_own13 hown1 (m * 3) (by omega)
  have hclr := fun ty => run_clear13 W1 ty g (m * 3) (cap - m) hth
  obtain ⟨hown2, hb2⟩ := own_behind13 hown1 (m * 3) [.int .i64 0, .int .i64 0, .int .i64 0] (Nat.le_refl _) (by simp; omega)
  obtain ⟨W2, HW2⟩ := hid_ex (W1.setCells g (m * 3) [.int .i64 0, .int .i64 0, .int .i64 0])
  rw [← HW2.out] at hclr hown2 hb2
  have HO2 : Hid (UOwn W2 base (.slice (some ⟨g, 0, none⟩) m cap) (L.eraseIdx i)) := by
    unfold Hid UOwn
    rw [List.eraseIdx_eq_take_drop_succ, List.flatMap_append, List.length_append, List.length_take, List.length_drop, Nat.min_eq_left (by omega), ← Hm.out]
    exact hown2
  have HB2 : Hid (Below base w W2) := (((Below.refl base w).drew).grown hgr1 hbase (fun k e => by cases e; exact hg)).trans hb2
  clear hdr hown1 hgr1 hth hown2 hb2 hinf hz0 hz1 hz2 HW2 Hm
  have hne : ((i : Int) == (i : Int) + 1) = false := by rw [beq_eq_false_iff_ne]; omega
  generalize L.length = n at *
  go_enter Tryd.func45, Tryd.ntmps45
  go_wp2_with fail
  refine wp_region_noPanic ?_
  refine wp_region_held_drew (S := fun _ => True) (by kernel_rfl) ?_ (fun hHeld => ?_)
  · trivial
  refine wpAnyH_take (i := 0) (v := .slice (some ⟨g, 0, none⟩) n cap) rfl (by kernel_rfl) (by kernel_rfl) (by kernel_rfl) (fun _ _ _ h => h) (Or.inl ⟨by rfl, ?_⟩) (by assumption) ?_
  · (intro w1 hSw; (try dsimp only at hSw); go_simp)
  simp only [List.getElem_toArray, List.getElem_cons_zero, Act.put, List.setIfInBounds_toArray, List.set_cons_zero, List.set_cons_succ]
  refine wpAnyH_take (i := 1) (v := .int .i64 (i : Int)) rfl (by kernel_rfl) (by kernel_rfl) (by kernel_rfl) (fun _ _ _ h => h) (Or.inl ⟨by rfl, ?_⟩) (by assumption) ?_
  · (intro w1 hSw; (try dsimp only at hSw); go_simp)
  simp only [List.getElem_toArray, List.getElem_cons_succ, List.getElem_cons_zero, Act.put, List.setIfInBounds_toArray, List.set_cons_zero, List.set_cons_succ]
  refine wpAnyH_take (i := 2) (v := .slice (some ⟨g, 0, none⟩) i cap) rfl (by kernel_rfl) (by kernel_rfl) (by kernel_rfl) (fun _ _ _ h => h) (Or.inl ⟨by rfl, ?_⟩) (by assumption) ?_
  · (intro w1 hSw; (try dsimp only at hSw); go_simp)
  simp only [List.getElem_toArray, List.getElem_cons_succ, List.getElem_cons_zero, Act.put, List.setIfInBounds_toArray, List.set_cons_zero, List.set_cons_succ]
  refine wpAnyH_take (i := 3) (v := .slice (some ⟨g, 0, none⟩) n cap) rfl (by kernel_rfl) (by kernel_rfl) (by kernel_rfl) (fun _ _ _ h => h) (Or.inl ⟨by rfl, ?_⟩) (by assumption) ?_
  · (intro w1 hSw; (try dsimp only at hSw); go_simp)
  simp only [List.getElem_toArray, List.getElem_cons_succ, List.getElem_cons_zero, Act.put, List.setIfInBounds_toArray, List.set_cons_zero, List.set_cons_succ]
  refine wpAnyH_take (i := 4) (v := .int .i64 ((i : Int) + 1)) rfl (by kernel_rfl) (by kernel_rfl) (by kernel_rfl) (fun _ _ _ h => h) (Or.inl ⟨by rfl, ?_⟩) (by assumption) ?_
  · (intro w1 hSw; (try dsimp only at hSw); go_simp)
  simp only [List.getElem_toArray, List.getElem_cons_succ, List.getElem_cons_zero, Act.put, List.setIfInBounds_toArray, List.set_cons_zero, List.set_cons_succ]
  refine wpAnyH_take (i := 5) (v := .slice (some da) (n - (i + 1)) (cap - (i + 1))) rfl (by kernel_rfl) (by kernel_rfl) (by kernel_rfl) (fun _ _ _ h => h) (Or.inl ⟨by rfl, ?_⟩) (by assumption) ?_
  · (intro w1 hSw; (try dsimp only at hSw); go_simp)
  simp only [List.getElem_toArray, List.getElem_cons_succ, List.getElem_cons_zero, Act.put, List.setIfInBounds_toArray, List.set_cons_zero, List.set_cons_succ]
  refine wpAnyH_ready (rs := [6]) (by kernel_rfl) (by simp) ?_
  refine AllReadyH.cons (o := _) rfl (fun K hK => ?_) AllReadyH.nil
  refine wp_app_runG (.tmp 22) (.tmp 25) 23 23 rfl rfl _ _ _ (by simp [Act.eval]) (by simp [Act.eval]) hrun ?_
  simp only [List.getElem_toArray, List.getElem_cons_succ, List.getElem_cons_zero, Act.put, List.setIfInBounds_toArray, List.set_cons_zero, List.set_cons_succ]
  refine hK.out _ _ ?_ (fun hHeld => ?_)
  · trivial
  clear hK K
  refine wpAnyH_ready (rs := [7]) (by kernel_rfl) (by simp) ?_
  refine AllReadyH.cons (o := _) rfl (fun K hK => ?_) AllReadyH.nil
  go_simp
  refine hK.out _ _ ?_ (fun hHeld => ?_)
  · trivial
  clear hK K
  refine wpAnyH_done (by kernel_rfl) ?_ _
  refine NoPanic.normal ?_
  go_wp2_with fail
  go_ret
  exact ⟨_, rfl, HO2.out, HB2.out⟩
end Go.Proofs.YtoibfepnecppmaaDoor

/- The library's SortFunc of runs, at this program (written by mkmfo.py). -/
namespace Go.Proofs.YtoibfepnecppmaaDoor
open Go.Shelf Go.Sort Go.RowKit

def sortR_ren : Go.Shelf.Ren := ⟨fun | 6 => 32 | 15 => 47 | 14 => 46 | 28 => 66 | 29 => 67 | 20 => 58 | 21 => 59 | 22 => 60 | 23 => 61 | 24 => 62 | 25 => 63 | 26 => 64 | 27 => 65 | 46 => 72 | 47 => 73 | 48 => 74 | 49 => 75 | 50 => 76 | 57 => 81 | n => n, fun | 22 => 23 | 24 => 52 | 25 => 84 | 3 => 3 | 39 => 106 | 0 => 0 | 53 => 109 | 55 => 59 | 4 => 4 | 46 => 119 | 45 => 118 | 50 => 75 | 5 => 5 | 9 => 9 | 66 => 129 | 70 => 133 | 76 => 139 | 77 => 140 | n => n, fun | n => n⟩
theorem sortR : Go.Proofs.SlLaysF0.n6 Tryd.prog sortR_ren := {
  mixed := by kernel_rfl
  f6 := ⟨Tryd.f32.name, by decide, Tryd.func32.trans (congrArg some (by kernel_rfl))⟩
  f14 := ⟨Tryd.f46.name, by decide, Tryd.func46.trans (congrArg some (by kernel_rfl))⟩
  f15 := Tryd.func47.trans (congrArg some (by kernel_rfl))
  f20 := ⟨Tryd.f58.name, by decide, Tryd.func58.trans (congrArg some (by kernel_rfl))⟩
  f21 := ⟨Tryd.f59.name, by decide, Tryd.func59.trans (congrArg some (by kernel_rfl))⟩
  f22 := ⟨Tryd.f60.name, by decide, Tryd.func60.trans (congrArg some (by kernel_rfl))⟩
  f23 := ⟨Tryd.f61.name, by decide, Tryd.func61.trans (congrArg some (by kernel_rfl))⟩
  f24 := ⟨Tryd.f62.name, by decide, Tryd.func62.trans (congrArg some (by kernel_rfl))⟩
  f25 := ⟨Tryd.f63.name, by decide, Tryd.func63.trans (congrArg some (by kernel_rfl))⟩
  f26 := ⟨Tryd.f64.name, by decide, Tryd.func64.trans (congrArg some (by kernel_rfl))⟩
  f27 := ⟨Tryd.f65.name, by decide, Tryd.func65.trans (congrArg some (by kernel_rfl))⟩
  f28 := Tryd.func66.trans (congrArg some (by kernel_rfl))
  f29 := Tryd.func67.trans (congrArg some (by kernel_rfl))
  f46 := ⟨Tryd.f72.name, by decide, Tryd.func72.trans (congrArg some (by kernel_rfl))⟩
  f47 := Tryd.func73.trans (congrArg some (by kernel_rfl))
  f48 := Tryd.func74.trans (congrArg some (by kernel_rfl))
  f49 := ⟨Tryd.f75.name, by decide, Tryd.func75.trans (congrArg some (by kernel_rfl))⟩
  f50 := ⟨Tryd.f76.name, by decide, Tryd.func76.trans (congrArg some (by kernel_rfl))⟩
  f57 := ⟨Tryd.f81.name, by decide, Tryd.func81.trans (congrArg some (by kernel_rfl))⟩
  t0 := Tryd.underlying0
  a0 := Tryd.isAgg0
  z0 := Tryd.sizeOf0
  v0 := Tryd.zeroValue0
  t3 := Tryd.underlying3
  a3 := Tryd.isAgg3
  z3 := Tryd.sizeOf3
  v3 := Tryd.zeroValue3
  t4 := Tryd.underlying4
  a4 := Tryd.isAgg4
  z4 := Tryd.sizeOf4
  v4 := Tryd.zeroValue4
  t5 := Tryd.underlying5
  a5 := Tryd.isAgg5
  z5 := Tryd.sizeOf5
  v5 := Tryd.zeroValue5
  t9 := Tryd.underlying9
  a9 := Tryd.isAgg9
  z9 := Tryd.sizeOf9
  v9 := Tryd.zeroValue9
  t22 := Tryd.underlying23
  a22 := Tryd.isAgg23
  z22 := Tryd.sizeOf23
  v22 := Tryd.zeroValue23
  t25 := Tryd.underlying84
  a25 := Tryd.isAgg84
  z25 := Tryd.sizeOf84
  v25 := Tryd.zeroValue84
  t39 := Tryd.underlying106
  a39 := Tryd.isAgg106
  z39 := Tryd.sizeOf106
  v39 := Tryd.zeroValue106
  t45 := Tryd.underlying118
  a45 := Tryd.isAgg118
  z45 := Tryd.sizeOf118
  v45 := Tryd.zeroValue118
  t46 := Tryd.underlying119
  a46 := Tryd.isAgg119
  z46 := Tryd.sizeOf119
  v46 := Tryd.zeroValue119
  t50 := Tryd.underlying75
  a50 := Tryd.isAgg75
  z50 := Tryd.sizeOf75
  v50 := Tryd.zeroValue75
  t53 := Tryd.underlying109
  a53 := Tryd.isAgg109
  z53 := Tryd.sizeOf109
  v53 := Tryd.zeroValue109
  t55 := Tryd.underlying59
  a55 := Tryd.isAgg59
  z55 := Tryd.sizeOf59
  v55 := Tryd.zeroValue59
  t66 := Tryd.underlying129
  a66 := Tryd.isAgg129
  z66 := Tryd.sizeOf129
  v66 := Tryd.zeroValue129
  t70 := Tryd.underlying133
  a70 := Tryd.isAgg133
  z70 := Tryd.sizeOf133
  v70 := Tryd.zeroValue133
  t76 := Tryd.underlying139
  a76 := Tryd.isAgg139
  z76 := Tryd.sizeOf139
  v76 := Tryd.zeroValue139
  t77 := Tryd.underlying140
  a77 := Tryd.isAgg140
  z77 := Tryd.sizeOf140
  v77 := Tryd.zeroValue140 }
end Go.Proofs.YtoibfepnecppmaaDoor

/- manifest: runs are sorted. -/
namespace Go.Proofs.YtoibfepnecppmaaDoor
open Go.RowKit Go.Shelf

instance : Inhabited Ru := ⟨⟨0, 0, 0⟩⟩
theorem lt13 (x y : Ru) : Go.Proofs.ltOf ord13 x y = decide (ahd x y) := by
  unfold Go.Proofs.ltOf
  exact decide_eq_decide.2 (ord13_lt x y)
theorem swo13 : Go.Sort.SWO (Go.Proofs.ltOf ord13) where
  irrefl x := by rw [lt13]; exact decide_eq_false (ahd_irrefl x)
  trans x y z h1 h2 := by
    rw [lt13, decide_eq_true_eq] at *
    exact ahd_trans h1 h2
  ntrans x y z h1 h2 := by
    rw [lt13, decide_eq_false_iff_not] at *
    unfold ahd at *; omega
theorem eg_order : ∀ args w, (callFunc 33 args).run Tryd.prog w = .ok (.enter 33 args) w := enters_of Tryd.func33 (by kernel_rfl) rfl
theorem cmpLays_order (blk off size : Nat) (w : World) : Go.Proofs.CmpLays Tryd.prog 33 #[] r3L 3 ord13 blk off size w :=
  fun _ _ _ _ x y => order13_any x y _
theorem isAggU : ∀ w, (isAgg (sortR_ren.t 24)).run Tryd.prog w = .ok true w := Tryd.isAgg52
theorem sizeOfU : ∀ w, (Go.sizeOf (sortR_ren.t 24)).run Tryd.prog w = .ok 3 w := Tryd.sizeOf52
theorem flatK_get (d : Array Ru) (t : Nat) (h : t < d.size * 3) : (Go.Sort.flatK r3L 3 d)[t]? = (d.toList.flatMap r3L)[t]? := by
  have hq : t / 3 < d.toList.length := by simp; omega
  have e : t = t / 3 * 3 + t % 3 := by omega
  have hm : t % 3 < 3 := Nat.mod_lt _ (by decide)
  rw [Array.getElem?_eq_getElem (by simpa using h), ← getElem!_pos _ t (by simpa using h), Go.Sort.get_flatK _ _ _ _ h]
  conv => rhs; rw [e]
  rw [fl3R _ _ _ hq hm]
  have hq2 : t / 3 < d.size := by omega
  rw [getElem!_pos d (t / 3) hq2, List.getElem?_eq_getElem (by rw [r3L_len]; exact hm), getElem!_pos (r3L d[t / 3]) (t % 3) (by rw [r3L_len]; exact hm)]
  simp
def UG0 (w : World) (v : Value) (L : List Ru) : Prop := GOwn w 52 3 v L.length (L.flatMap r3L)
theorem holds13 {w : World} {g n cap : Nat} {L : List Ru} (h : UG0 w (.slice (some ⟨g, 0, none⟩) n cap) L) : Go.Sort.HoldsK r3L 3 w g 0 L.toArray := by
  rcases h.2 with ⟨hv, _⟩ | ⟨g', cap', cur, hv, hw, hc, hm, hs, ht⟩
  · cases hv
  · simp at hv
    obtain ⟨rfl, rfl, rfl⟩ := hv
    intro j hj
    have hj3 : j < L.toArray.size * 3 := by simpa using hj
    have hj4 : j < L.length * 3 := by simpa using hj3
    rw [Nat.zero_add]
    refine ⟨?_, by simp [World.frozen?, hw]⟩
    have e := flatK_get L.toArray j hj3
    rw [List.toList_toArray, ← ht, List.getElem?_take, if_pos hj4, Array.getElem?_toList] at e
    simp only [World.cell?, hw]
    rw [← e, Array.getElem?_eq_getElem (by simpa using hj), ← getElem!_pos _ j (by simpa using hj)]
    rfl
/-- What the sort leaves. -/
theorem sorted13 {w : World} {g n cap : Nat} {L : List Ru} (h : UG0 w (.slice (some ⟨g, 0, none⟩) n cap) L) (d' : Array Ru) (hd : d'.size = L.length) (m : Nat) (os : Array Obj) :
    UG0 (Go.Proofs.sortWorldK r3L 3 w g 0 m d' os) (.slice (some ⟨g, 0, none⟩) n cap) d'.toList ∧ ∀ base, base ≤ g → Below base w (Go.Proofs.sortWorldK r3L 3 w g 0 m d' os) := by
  rcases h.2 with ⟨hv, _⟩ | ⟨g', cap', cur, hv, hw, hc, hm, hs, ht⟩
  · cases hv
  · simp at hv
    obtain ⟨rfl, rfl, rfl⟩ := hv
    have hgl : g < w.heap.size := (Array.getElem?_eq_some_iff.1 hw).1
    have hheap : ∀ k, k < w.heap.size → (Go.Proofs.sortWorldK r3L 3 w g 0 m d' os).heap[k]? = if g = k then some (.cells (Go.Sort.putCells id 0 (Go.Sort.flatK r3L 3 d') cur) 52 (0, 0)) else w.heap[k]? := fun k hk => by
      unfold Go.Proofs.sortWorldK Go.Sort.putRowK Go.Sort.putRow Go.Sort.mapBlock Go.Sort.grow Go.Sort.ahead
      simp only
      rw [Array.getElem?_append_left (by simpa using hk), Array.getElem?_modify]
      by_cases e : g = k
      · subst e
        simp [hw, Go.Sort.onCells]
      · simp [e]
    have hl : d'.toList.length = L.length := by simpa using hd
    refine ⟨⟨by rw [fl3_len], .inr ⟨g, cap, Go.Sort.putCells id 0 (Go.Sort.flatK r3L 3 d') cur, by rw [hl], ?_, by omega, hm, ?_, ?_⟩⟩, fun base hg => ?_⟩
    · rw [hheap g hgl, if_pos rfl]
    · simpa [Go.Sort.putCells] using hs
    · apply List.ext_getElem?
      intro t
      rw [List.getElem?_take]
      split
      · rename_i ht2
        rw [Array.getElem?_toList, Go.Sort.putCells, Array.getElem?_mapIdx]
        have htc : t < cur.size := by rw [hl] at ht2; have := Nat.mul_le_mul_right 3 hc; omega
        rw [Array.getElem?_eq_getElem htc, Option.map_some, if_pos ⟨Nat.zero_le _, by rw [Go.Sort.size_flatK, hd]; rw [hl] at ht2; omega⟩]
        have := flatK_get d' t (by rw [hd]; rw [hl] at ht2; exact ht2)
        rw [← this, Array.getElem?_eq_getElem (by rw [Go.Sort.size_flatK, hd]; rw [hl] at ht2; exact ht2), ← getElem!_pos _ t (by rw [Go.Sort.size_flatK, hd]; rw [hl] at ht2; exact ht2)]
        rfl
      · rename_i ht2
        rw [List.getElem?_eq_none (by rw [fl3_len]; omega)]
    · refine ⟨rfl, rfl, rfl, ?_, fun k hk => ?_⟩
      · show w.heap.size ≤ ((w.heap.modify g _) ++ os).size
        simp
      · rw [hheap k (by omega), if_neg (by omega)]
end Go.Proofs.YtoibfepnecppmaaDoor
