/- MFm MFn MFo MFp MFq, joined. -/
import Derived.Test.YtilbffgpniomcaaGreatDoorQQ11
import Derived.Lib.SliceRun
import Derived.Laws.OwnMore
import Derived.Shelf.SlSortCmp.WholeK
import Derived.Shelf.SlSortCmp.NoneTotal
import Derived.Test.YtilbffgpniomcaaGreatDoorRows
/- manifest: Right. -/
namespace Go.Proofs.YtilbffgpniomcaaGreatDoor
open Go.RowKit

theorem okSt_no {s : St} (h : ¬ (1 ≤ s.lo ∧ s.lo < s.ne ∧ s.ne ≤ 1099511627776 ∧ 0 ≤ s.ma ∧ s.ma ≤ 1099511627776)) : decide (okSt s) = false := decide_eq_false fun q => h ⟨q.1, q.2.1, q.2.2.1, q.2.2.2.1, q.2.2.2.2.1⟩
theorem okSt_yes {s : St} (h : 1 ≤ s.lo ∧ s.lo < s.ne ∧ s.ne ≤ 1099511627776 ∧ 0 ≤ s.ma ∧ s.ma ≤ 1099511627776) : decide (okSt s) = decide (okRs s.ru s.ne) := by
  apply Bool.eq_iff_iff.2
  simp only [decide_eq_true_eq]
  exact ⟨fun q => q.2.2.2.2.2, fun q => ⟨h.1, h.2.1, h.2.2.1, h.2.2.2.1, h.2.2.2.2, q⟩⟩
set_option maxRecDepth 100000 in
set_option maxHeartbeats 4000000 in
theorem right13_any (v : Value) (s : St) (w : World) (h : UR w v s.ru) :
    Calls Tryz.prog 25 #[.agg #[v, .int .i64 s.lo, .int .i64 s.ne, .int .i64 s.ma]] w fun e w' => e = .returned (.bool (decide (okSt s))) ∧ Below w.heap.size w w' := by
  obtain ⟨a, cap, rfl, hm⟩ := h.r.form
  have HU : Hid (UR w (.slice a s.ru.length cap) s.ru) := h
  obtain ⟨N, HN⟩ : ∃ n, Hid (s.ru.length = n) := ⟨_, rfl⟩
  rw [HN.out] at HU ⊢
  clear h hm
  have HNo : Hid (¬ (1 ≤ s.lo ∧ s.lo < s.ne ∧ s.ne ≤ 1099511627776 ∧ 0 ≤ s.ma ∧ s.ma ≤ 1099511627776) → decide (okSt s) = false) := okSt_no
  have HYes : Hid ((1 ≤ s.lo ∧ s.lo < s.ne ∧ s.ne ≤ 1099511627776 ∧ 0 ≤ s.ma ∧ s.ma ≤ 1099511627776) → decide (okSt s) = decide (okRs s.ru s.ne)) := okSt_yes
  obtain ⟨q, Hq⟩ := hid_ex (decide (okSt s))
  rw [← Hq.out] at HNo HYes ⊢
  obtain ⟨p, Hp⟩ := hid_ex (decide (okRs s.ru s.ne))
  rw [← Hp.out] at HYes
  clear Hq
  obtain ⟨ru, lo, ne, ma⟩ := s
  simp only at *
  have hX0 : (w.alloc (.cells #[.slice a N cap, .int .i64 lo, .int .i64 ne, .int .i64 ma] 33)).heap[w.heap.size]? = some (.cells #[.slice a N cap, .int .i64 lo, .int .i64 ne, .int .i64 ma] 33) := heap_alloc_new _ _
  have HB0 : Hid (Below w.heap.size w (w.alloc (.cells #[.slice a N cap, .int .i64 lo, .int .i64 ne, .int .i64 ma] 33))) := (Below.refl _ _).alloc (Nat.le_refl _) _
  obtain ⟨c0, c1, c2, c3⟩ := four13 hX0
  clear hX0
  by_cases h1 : lo < 1
  · have hqf := HNo.out (by omega)
    subst hqf
    go_enter Tryz.func25, Tryz.ntmps25
    go_wp2_with fail
    go_ret
    exact ⟨rfl, HB0.out⟩
  · by_cases h2 : ne ≤ lo
    · have hqf := HNo.out (by omega)
      subst hqf
      go_enter Tryz.func25, Tryz.ntmps25
      go_wp2_with fail
      go_ret
      exact ⟨rfl, HB0.out⟩
    · by_cases h3 : 1099511627776 < ne
      · have hqf := HNo.out (by omega)
        subst hqf
        go_enter Tryz.func25, Tryz.ntmps25
        go_wp2_with fail
        go_ret
        exact ⟨rfl, HB0.out⟩
      · by_cases h4 : 0 ≤ ma
        · by_cases h5 : ma ≤ 1099511627776
          · have hqp := HYes.out ⟨by omega, by omega, by omega, by omega, by omega⟩
            subst hqp
            have HC : Hid (Calls Tryz.prog 58 #[.slice a N cap, .int .i64 ne] (w.alloc (.cells #[.slice a N cap, .int .i64 lo, .int .i64 ne, .int .i64 ma] 33)) fun e w' => e = .returned (.bool q) ∧ Below (w.alloc (.cells #[.slice a N cap, .int .i64 lo, .int .i64 ne, .int .i64 ma] 33)).heap.size (w.alloc (.cells #[.slice a N cap, .int .i64 lo, .int .i64 ne, .int .i64 ma] 33)) w') := by
              have := areRight_any _ ru ne _ (HU.out.below HB0.out)
              rw [← Hp.out] at this
              exact this
            clear HNo HYes
            go_enter Tryz.func25, Tryz.ntmps25
            go_wp2_with fail
            refine HC.out.mono ?_
            rintro e w1 ⟨rfl, hb1⟩
            have HB1 : Hid (Below w.heap.size w w1) := HB0.out.trans (hb1.mono HB0.out.size)
            clear hb1 HC c0 c1 c2 c3
            go_wp2_with fail
            go_ret
            exact ⟨rfl, HB1.out⟩
          · have hqf := HNo.out (by omega)
            subst hqf
            go_enter Tryz.func25, Tryz.ntmps25
            go_wp2_with fail
            go_ret
            exact ⟨rfl, HB0.out⟩
        · have hqf := HNo.out (by omega)
          subst hqf
          go_enter Tryz.func25, Tryz.ntmps25
          go_wp2_with fail
          go_ret
          exact ⟨rfl, HB0.out⟩
end Go.Proofs.YtilbffgpniomcaaGreatDoor

/- manifest: slices.Clone and Delete of runs. -/
namespace Go.Proofs.YtilbffgpniomcaaGreatDoor
open Go.RowKit Go.Shelf

def UOwn (w : World) (base : Nat) (v : Value) (L : List Ru) : Prop := w.ownsRow base 72 3 v L.length (L.flatMap r3L)
theorem fl3_len (L : List Ru) : (L.flatMap r3L).length = L.length * 3 := by
  induction L with
  | nil => rfl
  | cons r L ih => rw [List.flatMap_cons, List.length_append, ih, r3L_len, List.length_cons]; omega
theorem one_fl3 (L : List Ru) : ∀ u ∈ L.flatMap r3L, u.oneCell' = true := by
  intro u hu
  obtain ⟨r, _, h⟩ := List.mem_flatMap.1 hu
  simp [r3L] at h
  rcases h with rfl | rfl | rfl <;> rfl
theorem UOwn.gown {w : World} {base : Nat} {v : Value} {L : List Ru} (h : UOwn w base v L) : GOwn w 72 3 v L.length (L.flatMap r3L) := by
  refine ⟨h.1, ?_⟩
  rcases h.2 with ⟨h1, h2⟩ | ⟨g, cap, cur, hv, _, hw, hc, hm, hs, ht⟩
  · exact .inl ⟨h1, h2⟩
  · exact .inr ⟨g, cap, cur, hv, hw, hc, hm, by omega, ht⟩
theorem gown_ur {w : World} {T : TypeId} {v : Value} {L : List Ru} (h : GOwn w T 3 v L.length (L.flatMap r3L)) : UR w v L := ⟨gown_rur h, fun a n cap e => by
  obtain ⟨a', c', e', h1, h2, _⟩ := GOwn.form h
  rw [e'] at e
  simp only [Value.slice.injEq] at e
  omega, fun n cap e => by
  obtain ⟨a', c', e', _, _, _, h3⟩ := GOwn.form h
  rw [e'] at e
  simp only [Value.slice.injEq] at e
  have := h3 e.1
  omega⟩
theorem news_fl3 {w : World} {b off n cap : Nat} {L : List Ru} (h : RuR w (.slice (some ⟨b, off, none⟩) n cap) L) : ∀ j u, (L.flatMap r3L)[j]? = some u → w.cell? ((⟨b, off, none⟩ : Addr).add j) = some u := by
  intro j u hj
  have hl : j < L.length * 3 := by
    have := (List.getElem?_eq_some_iff.1 hj).1
    rwa [fl3_len] at this
  have hq : j / 3 < L.length := by omega
  have e : j = j / 3 * 3 + j % 3 := by omega
  rw [e, fl3R L (j / 3) (j % 3) hq (by omega)] at hj
  obtain ⟨b', off', e', _, g0, g1, g2⟩ := h.at hq rfl
  simp only [Option.some.injEq, Addr.mk.injEq, and_true] at e'
  obtain ⟨rfl, rfl⟩ := e'
  have ea : (⟨b, off, none⟩ : Addr).add j = ⟨b, off + j, none⟩ := by simp [Addr.add]
  rw [ea]
  have e9 : off + j = off + j / 3 * 3 + j % 3 := by omega
  have hm : j % 3 < 3 := Nat.mod_lt _ (by decide)
  rw [e9]
  generalize j % 3 = m at hj hm ⊢
  rcases (by omega : m = 0 ∨ m = 1 ∨ m = 2) with rfl | rfl | rfl
  · simp [r3L] at hj; rw [← hj]; exact g0
  · simp [r3L] at hj; rw [← hj]; exact g1
  · simp [r3L] at hj; rw [← hj]; exact g2
set_option maxRecDepth 100000 in
theorem clone13_any (v : Value) (L : List Ru) (w : World) (hR : RuR w v L) (h64 : L.length ≤ 1000) : Calls Tryz.prog 86 #[v] w fun e w' => ∃ v', e = .returned v' ∧ UOwn w' w.heap.size v' L ∧ Below w.heap.size w w' := by
  have HR : Hid (RuR w v L) := hR
  obtain ⟨a, cap, rfl, hl2⟩ := hR.form
  clear hR
  have q22 : ∀ (w : World) (a : Option Addr) (n c n' c' : Nat), (binOp .eql 31 (.slice a n c) (.slice none n' c')).run Tryz.prog w = .ok (.bool a.isNone) w := fun w a n c n' c' => Lib.run_eql_slice_nil w _ _ a n c n' c' Tryz.underlying31
  cases a with
  | none =>
    have hL : L = [] := by
      rcases Nat.eq_zero_or_pos L.length with h | h
      · exact List.length_eq_zero_iff.1 h
      · obtain ⟨b, off, e, _⟩ := HR.out.at h rfl
        cases e
    subst hL
    go_enter Tryz.func86, Tryz.ntmps86
    go_wp2_with fail
    go_ret
    exact ⟨_, rfl, World.ownsRow_nil _ _ _ _, Below.refl _ _⟩
  | some ad =>
    obtain ⟨i0, hi, hz0, hz1, hz2⟩ := info_parts infoU13
    have hn : ∀ j u, (L.flatMap r3L)[j]? = some u → (w.alloc (.cells #[] 72)).cell? (ad.add j) = some u := by
      intro j u hj
      rcases Nat.eq_zero_or_pos L.length with h | h
      · rw [List.length_eq_zero_iff.1 h] at hj; simp at hj
      · obtain ⟨b, off, e, _⟩ := HR.out.at h rfl
        cases e
        exact news_fl3 (HR.out.below ((Below.refl _ _).alloc (Nat.le_refl _) _)) j u hj
    have hown0 : (w.alloc (.cells #[] 72)).ownsRow w.heap.size 72 3 (.slice (some ⟨w.heap.size, 0, none⟩) 0 0) 0 [] := ⟨rfl, .inr ⟨w.heap.size, 0, #[], rfl, Nat.le_refl _, heap_alloc_new _ _, Nat.le_refl _, by simp [maxLen], rfl, rfl⟩⟩
    obtain ⟨v', w', hrun, hown', hgrow, _⟩ := run_append_own (P := Tryz.prog) (w.alloc (.cells #[] 72)) w.heap.size 31 31 72 i0 _ 3 24 Tryz.underlying31 hi hz0 hz1 hz2 rfl (by decide) _ 0 [] hown0 ad L.length cap (L.flatMap r3L) (fl3_len L) hn (one_fl3 L) (by unfold maxLen; omega) (by omega) (by simp)
    have HO : Hid (UOwn w' w.heap.size v' L) := by rw [Nat.zero_add, List.nil_append] at hown'; exact hown'
    have HB : Hid (Below w.heap.size w w') := ((Below.refl _ _).alloc (Nat.le_refl _) _).grown hgrow (by simp) (fun k e => by cases e; exact Nat.le_refl _)
    clear hn hown0 hown' hgrow hi hz0 hz1 hz2
    go_enter Tryz.func86, Tryz.ntmps86
    go_wp2_with (at_builtin; refine wpList_app_runG rfl _ _ _ _ rfl rfl _ _ _ rfl rfl hrun ?_)
    clear hrun
    (try go_wp2_with fail)
    go_ret
    exact ⟨_, rfl, HO.out, HB.out⟩
theorem run_clear13 (w : World) (ty : TypeId) (b o c : Nat) (ht : w.there b o 3) :
    (Builtin.clear_ #[31] ty #[.slice (some ⟨b, o, none⟩) 1 c]).run Tryz.prog w = .ok (.tuple #[]) (w.setCells b o [.int .i64 0, .int .i64 0, .int .i64 0]) := by
  have hz : ∀ w, (zeroValue 72).run Tryz.prog w = .ok (.agg #[.int .i64 0, .int .i64 0, .int .i64 0]) w := Tryz.zeroValue72
  have hst := run_storeCells_cells (P := Tryz.prog) b o [.int .i64 0, .int .i64 0, .int .i64 0] 0 w (fun j hj => by simpa using (ht j (by simpa using hj)).1) (fun j hj => by simpa using (ht j (by simpa using hj)).2) (by intro v hv; simp at hv; rcases hv with rfl; rfl)
  simp only [Nat.add_zero] at hst
  have hzc : (Builtin.zeroCells (Value.agg #[.int .i64 0, .int .i64 0, .int .i64 0]).cells 1).toList = [.int .i64 0, .int .i64 0, .int .i64 0] := by first | kernel_rfl | (simp [Builtin.zeroCells, Value.cells]; done) | decide
  simp [Builtin.clear_, run_underlying Tryz.underlying31, hz, hzc, hst]
theorem own_cut13 {w : World} {base g n cap : Nat} {L : List Ru} (h : UOwn w base (.slice (some ⟨g, 0, none⟩) n cap) L) {k : Nat} (hk : k ≤ L.length) : w.ownsRow base 72 3 (.slice (some ⟨g, 0, none⟩) k cap) k ((L.take k).flatMap r3L) := by
  refine ⟨by rw [fl3_len, List.length_take]; congr 1; omega, ?_⟩
  rcases h.2 with ⟨hv, _⟩ | ⟨g', cap', cur, hv, hg, hw, hc, hm, hs, ht⟩
  · cases hv
  · simp at hv
    obtain ⟨rfl, rfl, rfl⟩ := hv
    refine .inr ⟨g, cap, cur, rfl, hg, hw, by omega, hm, hs, ?_⟩
    have e : (L.take k).flatMap r3L = (L.flatMap r3L).take (k * 3) := by
      have e2 : L.flatMap r3L = (L.take k).flatMap r3L ++ (L.drop k).flatMap r3L := by rw [← List.flatMap_append, List.take_append_drop]
      rw [e2, List.take_append_of_le_length (by rw [fl3_len, List.length_take]; omega), List.take_of_length_le (l := (L.take k).flatMap r3L) (by rw [fl3_len, List.length_take]; omega)]
    rw [e, ← ht, List.take_take, Nat.min_eq_left (by omega)]
/-- Cells behind a row's own are set: the row stands. -/
theorem own_behind13 {w : World} {base g n cap : Nat} {xs : List Value} {T : TypeId} (h : w.ownsRow base T 3 (.slice (some ⟨g, 0, none⟩) n cap) n xs) (o : Nat) (vs : List Value) (ho : n * 3 ≤ o) (hl : o + vs.length ≤ cap * 3) :
    (w.setCells g o vs).ownsRow base T 3 (.slice (some ⟨g, 0, none⟩) n cap) n xs ∧ Below base w (w.setCells g o vs) := by
  rcases h.2 with ⟨hv, _⟩ | ⟨g', cap', cur, hv, hg, hw, hc, hm, hs, ht⟩
  · cases hv
  · simp at hv
    obtain ⟨rfl, rfl⟩ := hv
    have hW := stW_cells g T vs o w cur hw (by omega)
    obtain ⟨cur', k1, k2, k3, k4⟩ := hW.c
    refine ⟨⟨h.1, .inr ⟨g, cap, cur', rfl, hg, k1, hc, hm, by rw [k2, hs], ?_⟩⟩, hW.b _ hg⟩
    rw [← ht]
    apply List.ext_getElem?
    intro j
    rw [List.getElem?_take, List.getElem?_take]
    split
    · rename_i hj
      rw [Array.getElem?_toList, Array.getElem?_toList]
      exact k3 j (.inl (by omega))
    · rfl
theorem there_own13 {w : World} {base g n cap : Nat} {xs : List Value} {T : TypeId} (h : w.ownsRow base T 3 (.slice (some ⟨g, 0, none⟩) n cap) n xs) (o : Nat) (ho : o + 3 ≤ cap * 3) : w.there g o 3 := by
  rcases h.2 with ⟨hv, _⟩ | ⟨g', cap', cur, hv, hg, hw, hc, hm, hs, ht⟩
  · cases hv
  · simp at hv
    obtain ⟨rfl, rfl⟩ := hv
    exact there_of hw (by omega)
/-- L[c:] -/
theorem usl_from {w : World} {g N cap : Nat} {L : List Ru} (h : UR w (.slice (some ⟨g, 0, none⟩) N cap) L) (hN : L.length = N) {c : Nat} (hc : c ≤ N) :
    ∃ a', (∀ w', (Instr.slice 31 (.slice (some ⟨g, 0, none⟩) N cap) (some (.int .i64 (c : Int))) none none).run Tryz.prog w' = .ok (.slice (some a') (N - c) (cap - c)) w') ∧ ∀ j u, ((L.drop c).flatMap r3L)[j]? = some u → w.cell? (a'.add j) = some u := by
  obtain ⟨h1, h2⟩ := h.c _ _ _ rfl
  unfold maxLen at h2
  obtain ⟨a', ha⟩ : ∃ a', (if cap = c then some (⟨g, 0, none⟩ : Addr) else (some (⟨g, 0, none⟩ : Addr)).map (·.add (c * 3))) = some a' := by split <;> exact ⟨_, rfl⟩
  refine ⟨a', fun w' => ?_, fun j u hj => ?_⟩
  · rw [run_slice_l _ _ _ _ _ undU _ _ (by omega) (by omega), elemU, sizeU]
    show Result.ok (Go.sliced (some ⟨g, 0, none⟩) c N cap 3) w' = _
    unfold Go.sliced
    rw [ha]
  · by_cases e : cap = c
    · have : L.drop c = [] := List.drop_eq_nil_of_le (by omega)
      rw [this] at hj; simp at hj
    · rw [if_neg e] at ha
      simp only [Option.map_some, Option.some.injEq] at ha
      subst ha
      have hs : L.flatMap r3L = (L.take c).flatMap r3L ++ (L.drop c).flatMap r3L := by rw [← List.flatMap_append, List.take_append_drop]
      have h9 := news_fl3 h.r (c * 3 + j) u (by rw [hs, List.getElem?_append_right (by rw [fl3_len, List.length_take]; omega), fl3_len, List.length_take, Nat.min_eq_left (by omega), Nat.add_sub_cancel_left]; exact hj)
      have ea : ((⟨g, 0, none⟩ : Addr).add (c * 3)).add j = (⟨g, 0, none⟩ : Addr).add (c * 3 + j) := by
        have e1 : (⟨g, 0, none⟩ : Addr).add (c * 3) = ⟨g, c * 3, none⟩ := by simp [Addr.add]; omega
        have e2 : (⟨g, 0, none⟩ : Addr).add (c * 3 + j) = ⟨g, c * 3 + j, none⟩ := by simp [Addr.add]; omega
        rw [e1, e2]; simp [Addr.add]
      rw [ea]; exact h9
set_option maxRecDepth 100000 in
set_option maxHeartbeats 2000000 in
theorem delete13_any (v : Value) (L : List Ru) (i : Nat) (base : Nat) (w : World) (hO : UOwn w base v L) (hi : i < L.length) (h64 : L.length ≤ 1000) (hbase : base ≤ w.heap.size) :
    Calls Tryz.prog 87 #[v, .int .i64 (i : Int), .int .i64 ((i : Int) + 1)] w fun e w' => ∃ v', e = .returned v' ∧ UOwn w' base v' (L.eraseIdx i) ∧ Below base w w' := by
  have HO : Hid (UOwn w base v L) := hO
  obtain ⟨g, cap, rfl, hg, hgl, hcap, hm⟩ : ∃ g cap, v = .slice (some ⟨g, 0, none⟩) L.length cap ∧ base ≤ g ∧ g < w.heap.size ∧ L.length ≤ cap ∧ cap ≤ maxLen := by
    have hlt := World.ownsRow.lt hO
    rcases hO.2 with ⟨_, h1⟩ | ⟨g, cap, cur, hv, hg, hw, hc, hm, _⟩
    · omega
    · exact ⟨g, cap, hv, hg, (hlt g (by rw [hv]; rfl)).2, hc, hm⟩
  clear hO
  unfold maxLen at hm
  obtain ⟨x1, hx1⟩ : ∃ x, ∀ w', (Instr.slice 31 (.slice (some ⟨g, 0, none⟩) L.length cap) (some (.int .i64 (i : Int))) (some (.int .i64 ((i : Int) + 1))) (some (.int .i64 (L.length : Int)))).run Tryz.prog w' = .ok x w' :=
    ⟨Go.sliced (some ⟨g, 0, none⟩) (i : Int).toNat ((i : Int) + 1).toNat (L.length : Int).toNat 3, fun w' => by
      rw [run_slice_lhm _ _ _ _ _ undU _ _ _ _ _ _ (by omega) (by omega) (by omega) (by omega), elemU, sizeU]
      rfl⟩
  have hup : ∀ w', (Instr.slice 31 (.slice (some ⟨g, 0, none⟩) L.length cap) none (some (.int .i64 (i : Int))) none).run Tryz.prog w' = .ok (.slice (some ⟨g, 0, none⟩) i cap) w' := fun w' => by
    rw [run_slice_h _ _ _ _ _ undU _ _ (by omega) (by omega), elemU, sizeU]
    show Result.ok (Go.sliced (some ⟨g, 0, none⟩) 0 i cap 3) w' = _
    unfold Go.sliced
    congr 2
    split <;> simp [Addr.add]
  obtain ⟨da, hfr, hdr⟩ := usl_from (gown_ur HO.out.gown) rfl (c := i + 1) (by omega)
  have hfr2 : ∀ w', (Instr.slice 31 (.slice (some ⟨g, 0, none⟩) L.length cap) (some (.int .i64 ((i : Int) + 1))) none none).run Tryz.prog w' = .ok (.slice (some da) (L.length - (i + 1)) (cap - (i + 1))) w' := hfr
  clear hfr
  obtain ⟨m, Hm⟩ := hid_ex (i + (L.length - (i + 1)))
  have hmL : m + 1 = L.length := by rw [Hm.out]; omega
  have hcl : ∀ w', (Instr.slice 31 (.slice (some ⟨g, 0, none⟩) m cap) (some (.int .i64 (m : Int))) (some (.int .i64 (L.length : Int))) none).run Tryz.prog w' = .ok (.slice (some ⟨g, m * 3, none⟩) 1 (cap - m)) w' := fun w' => by
    rw [run_slice_lh _ _ _ _ _ undU _ _ _ _ (by omega) (by omega) (by omega), elemU, sizeU]
    show Result.ok (Go.sliced (some ⟨g, 0, none⟩) m L.length cap 3) w' = _
    unfold Go.sliced
    rw [if_neg (by omega), show L.length - m = 1 by omega]
    congr 2
    simp [Addr.add]
    omega
  obtain ⟨i0, hinf, hz0, hz1, hz2⟩ := info_parts infoU13
  obtain ⟨W1, hrun, hown1, hgr1⟩ := run_append_fits (P := Tryz.prog) w.drew base 31 31 72 i0 3 Tryz.underlying31 hinf hz1 g i cap ((L.take i).flatMap r3L) (own_cut13 HO.out (by omega)) da (L.length - (i + 1)) (cap - (i + 1)) ((L.drop (i + 1)).flatMap r3L) (by rw [fl3_len, List.length_drop]) (fun j u hj => hdr j u hj) (one_fl3 _) (by omega)
  rw [← Hm.out] at hrun hown1
  have hth := there_own13 hown1 (m * 3) (by omega)
  have hclr := fun ty => run_clear13 W1 ty g (m * 3) (cap - m) hth
  obtain ⟨hown2, hb2⟩ := own_behind13 hown1 (m * 3) [.int .i64 0, .int .i64 0, .int .i64 0] (Nat.le_refl _) (by simp; omega)
  obtain ⟨W2, HW2⟩ := hid_ex (W1.setCells g (m * 3) [.int .i64 0, .int .i64 0, .int .i64 0])
  rw [← HW2.out] at hclr hown2 hb2
  have HO2 : Hid (UOwn W2 base (.slice (some ⟨g, 0, none⟩) m cap) (L.eraseIdx i)) := by
    unfold Hid UOwn
    rw [List.eraseIdx_eq_take_drop_succ, List.flatMap_append, List.length_append, List.length_take, List.length_drop, Nat.min_eq_left (by omega), ← Hm.out]
    exact hown2
  have HB2 : Hid (Below base w W2) := (((Below.refl base w).drew).grown hgr1 hbase (fun k e => by cases e; exact hg)).trans hb2
  clear hdr hown1 hgr1 hth hown2 hb2 hinf hz0 hz1 hz2 HW2 Hm
  have hne : ((i : Int) == (i : Int) + 1) = false := by rw [beq_eq_false_iff_ne]; omega
  generalize L.length = n at *
  go_enter Tryz.func87, Tryz.ntmps87
  go_wp2_with fail
  refine wp_region_noPanic ?_
  refine wp_region_held_drew (S := fun _ => True) (by kernel_rfl) ?_ (fun hHeld => ?_)
  · trivial
  refine wpAnyH_take (i := 0) (v := .slice (some ⟨g, 0, none⟩) n cap) rfl (by kernel_rfl) (by kernel_rfl) (by kernel_rfl) (fun _ _ _ h => h) (Or.inl ⟨by rfl, ?_⟩) (by assumption) ?_
  · (intro w1 hSw; (try dsimp only at hSw); go_simp)
  simp only [List.getElem_toArray, List.getElem_cons_zero, Act.put, List.setIfInBounds_toArray, List.set_cons_zero, List.set_cons_succ]
  refine wpAnyH_take (i := 1) (v := .int .i64 (i : Int)) rfl (by kernel_rfl) (by kernel_rfl) (by kernel_rfl) (fun _ _ _ h => h) (Or.inl ⟨by rfl, ?_⟩) (by assumption) ?_
  · (intro w1 hSw; (try dsimp only at hSw); go_simp)
  simp only [List.getElem_toArray, List.getElem_cons_succ, List.getElem_cons_zero, Act.put, List.setIfInBounds_toArray, List.set_cons_zero, List.set_cons_succ]
  refine wpAnyH_take (i := 2) (v := .slice (some ⟨g, 0, none⟩) i cap) rfl (by kernel_rfl) (by kernel_rfl) (by kernel_rfl) (fun _ _ _ h => h) (Or.inl ⟨by rfl, ?_⟩) (by assumption) ?_
  · (intro w1 hSw; (try dsimp only at hSw); go_simp)
  simp only [List.getElem_toArray, List.getElem_cons_succ, List.getElem_cons_zero, Act.put, List.setIfInBounds_toArray, List.set_cons_zero, List.set_cons_succ]
  refine wpAnyH_take (i := 3) (v := .slice (some ⟨g, 0, none⟩) n cap) rfl (by kernel_rfl) (by kernel_rfl) (by kernel_rfl) (fun _ _ _ h => h) (Or.inl ⟨by rfl, ?_⟩) (by assumption) ?_
  · (intro w1 hSw; (try dsimp only at hSw); go_simp)
  simp only [List.getElem_toArray, List.getElem_cons_succ, List.getElem_cons_zero, Act.put, List.setIfInBounds_toArray, List.set_cons_zero, List.set_cons_succ]
  refine wpAnyH_take (i := 4) (v := .int .i64 ((i : Int) + 1)) rfl (by kernel_rfl) (by kernel_rfl) (by kernel_rfl) (fun _ _ _ h => h) (Or.inl ⟨by rfl, ?_⟩) (by assumption) ?_
  · (intro w1 hSw; (try dsimp only at hSw); go_simp)
  simp only [List.getElem_toArray, List.getElem_cons_succ, List.getElem_cons_zero, Act.put, List.setIfInBounds_toArray, List.set_cons_zero, List.set_cons_succ]
  refine wpAnyH_take (i := 5) (v := .slice (some da) (n - (i + 1)) (cap - (i + 1))) rfl (by kernel_rfl) (by kernel_rfl) (by kernel_rfl) (fun _ _ _ h => h) (Or.inl ⟨by rfl, ?_⟩) (by assumption) ?_
  · (intro w1 hSw; (try dsimp only at hSw); go_simp)
  simp only [List.getElem_toArray, List.getElem_cons_succ, List.getElem_cons_zero, Act.put, List.setIfInBounds_toArray, List.set_cons_zero, List.set_cons_succ]
  refine wpAnyH_ready (rs := [6]) (by kernel_rfl) (by simp) ?_
  refine AllReadyH.cons (o := _) rfl (fun K hK => ?_) AllReadyH.nil
  refine wp_app_runG (.tmp 22) (.tmp 25) 31 31 rfl rfl _ _ _ (by simp [Act.eval]) (by simp [Act.eval]) hrun ?_
  simp only [List.getElem_toArray, List.getElem_cons_succ, List.getElem_cons_zero, Act.put, List.setIfInBounds_toArray, List.set_cons_zero, List.set_cons_succ]
  refine hK.out _ _ ?_ (fun hHeld => ?_)
  · trivial
  clear hK K
  refine wpAnyH_ready (rs := [7]) (by kernel_rfl) (by simp) ?_
  refine AllReadyH.cons (o := _) rfl (fun K hK => ?_) AllReadyH.nil
  go_simp
  refine hK.out _ _ ?_ (fun hHeld => ?_)
  · trivial
  clear hK K
  refine wpAnyH_done (by kernel_rfl) ?_ _
  refine NoPanic.normal ?_
  go_wp2_with fail
  go_ret
  exact ⟨_, rfl, HO2.out, HB2.out⟩
end Go.Proofs.YtilbffgpniomcaaGreatDoor

/- The library's SortFunc of runs, at this program (written by mkmfo.py). -/
namespace Go.Proofs.YtilbffgpniomcaaGreatDoor
open Go.Shelf Go.Sort Go.RowKit

def sortR_ren : Go.Shelf.Ren := ⟨fun | 6 => 63 | 15 => 89 | 14 => 88 | 28 => 114 | 29 => 115 | 20 => 106 | 21 => 107 | 22 => 108 | 23 => 109 | 24 => 110 | 25 => 111 | 26 => 112 | 27 => 113 | 46 => 129 | 47 => 130 | 48 => 131 | 49 => 132 | 50 => 133 | 57 => 142 | n => n, fun | 22 => 31 | 24 => 72 | 25 => 124 | 3 => 3 | 39 => 145 | 0 => 0 | 53 => 116 | 55 => 98 | 4 => 4 | 46 => 161 | 45 => 160 | 50 => 89 | 5 => 5 | 9 => 9 | 66 => 176 | 70 => 180 | 76 => 188 | 77 => 189 | n => n, fun | n => n⟩
theorem sortR : Go.Proofs.SlLaysF0.n6 Tryz.prog sortR_ren := {
  mixed := by kernel_rfl
  f6 := ⟨Tryz.f63.name, by decide, Tryz.func63.trans (congrArg some (by kernel_rfl))⟩
  f14 := ⟨Tryz.f88.name, by decide, Tryz.func88.trans (congrArg some (by kernel_rfl))⟩
  f15 := Tryz.func89.trans (congrArg some (by kernel_rfl))
  f20 := ⟨Tryz.f106.name, by decide, Tryz.func106.trans (congrArg some (by kernel_rfl))⟩
  f21 := ⟨Tryz.f107.name, by decide, Tryz.func107.trans (congrArg some (by kernel_rfl))⟩
  f22 := ⟨Tryz.f108.name, by decide, Tryz.func108.trans (congrArg some (by kernel_rfl))⟩
  f23 := ⟨Tryz.f109.name, by decide, Tryz.func109.trans (congrArg some (by kernel_rfl))⟩
  f24 := ⟨Tryz.f110.name, by decide, Tryz.func110.trans (congrArg some (by kernel_rfl))⟩
  f25 := ⟨Tryz.f111.name, by decide, Tryz.func111.trans (congrArg some (by kernel_rfl))⟩
  f26 := ⟨Tryz.f112.name, by decide, Tryz.func112.trans (congrArg some (by kernel_rfl))⟩
  f27 := ⟨Tryz.f113.name, by decide, Tryz.func113.trans (congrArg some (by kernel_rfl))⟩
  f28 := Tryz.func114.trans (congrArg some (by kernel_rfl))
  f29 := Tryz.func115.trans (congrArg some (by kernel_rfl))
  f46 := ⟨Tryz.f129.name, by decide, Tryz.func129.trans (congrArg some (by kernel_rfl))⟩
  f47 := Tryz.func130.trans (congrArg some (by kernel_rfl))
  f48 := Tryz.func131.trans (congrArg some (by kernel_rfl))
  f49 := ⟨Tryz.f132.name, by decide, Tryz.func132.trans (congrArg some (by kernel_rfl))⟩
  f50 := ⟨Tryz.f133.name, by decide, Tryz.func133.trans (congrArg some (by kernel_rfl))⟩
  f57 := ⟨Tryz.f142.name, by decide, Tryz.func142.trans (congrArg some (by kernel_rfl))⟩
  t0 := Tryz.underlying0
  a0 := Tryz.isAgg0
  z0 := Tryz.sizeOf0
  v0 := Tryz.zeroValue0
  t3 := Tryz.underlying3
  a3 := Tryz.isAgg3
  z3 := Tryz.sizeOf3
  v3 := Tryz.zeroValue3
  t4 := Tryz.underlying4
  a4 := Tryz.isAgg4
  z4 := Tryz.sizeOf4
  v4 := Tryz.zeroValue4
  t5 := Tryz.underlying5
  a5 := Tryz.isAgg5
  z5 := Tryz.sizeOf5
  v5 := Tryz.zeroValue5
  t9 := Tryz.underlying9
  a9 := Tryz.isAgg9
  z9 := Tryz.sizeOf9
  v9 := Tryz.zeroValue9
  t22 := Tryz.underlying31
  a22 := Tryz.isAgg31
  z22 := Tryz.sizeOf31
  v22 := Tryz.zeroValue31
  t25 := Tryz.underlying124
  a25 := Tryz.isAgg124
  z25 := Tryz.sizeOf124
  v25 := Tryz.zeroValue124
  t39 := Tryz.underlying145
  a39 := Tryz.isAgg145
  z39 := Tryz.sizeOf145
  v39 := Tryz.zeroValue145
  t45 := Tryz.underlying160
  a45 := Tryz.isAgg160
  z45 := Tryz.sizeOf160
  v45 := Tryz.zeroValue160
  t46 := Tryz.underlying161
  a46 := Tryz.isAgg161
  z46 := Tryz.sizeOf161
  v46 := Tryz.zeroValue161
  t50 := Tryz.underlying89
  a50 := Tryz.isAgg89
  z50 := Tryz.sizeOf89
  v50 := Tryz.zeroValue89
  t53 := Tryz.underlying116
  a53 := Tryz.isAgg116
  z53 := Tryz.sizeOf116
  v53 := Tryz.zeroValue116
  t55 := Tryz.underlying98
  a55 := Tryz.isAgg98
  z55 := Tryz.sizeOf98
  v55 := Tryz.zeroValue98
  t66 := Tryz.underlying176
  a66 := Tryz.isAgg176
  z66 := Tryz.sizeOf176
  v66 := Tryz.zeroValue176
  t70 := Tryz.underlying180
  a70 := Tryz.isAgg180
  z70 := Tryz.sizeOf180
  v70 := Tryz.zeroValue180
  t76 := Tryz.underlying188
  a76 := Tryz.isAgg188
  z76 := Tryz.sizeOf188
  v76 := Tryz.zeroValue188
  t77 := Tryz.underlying189
  a77 := Tryz.isAgg189
  z77 := Tryz.sizeOf189
  v77 := Tryz.zeroValue189 }
end Go.Proofs.YtilbffgpniomcaaGreatDoor

/- manifest: runs are sorted. -/
namespace Go.Proofs.YtilbffgpniomcaaGreatDoor
open Go.RowKit Go.Shelf

instance : Inhabited Ru := ⟨⟨0, 0, 0⟩⟩
theorem lt13 (x y : Ru) : Go.Proofs.ltOf ord13 x y = decide (ahd x y) := by
  unfold Go.Proofs.ltOf
  exact decide_eq_decide.2 (ord13_lt x y)
theorem swo13 : Go.Sort.SWO (Go.Proofs.ltOf ord13) where
  irrefl x := by rw [lt13]; exact decide_eq_false (ahd_irrefl x)
  trans x y z h1 h2 := by
    rw [lt13, decide_eq_true_eq] at *
    exact ahd_trans h1 h2
  ntrans x y z h1 h2 := by
    rw [lt13, decide_eq_false_iff_not] at *
    unfold ahd at *; omega
theorem eg_order : ∀ args w, (callFunc 64 args).run Tryz.prog w = .ok (.enter 64 args) w := enters_of Tryz.func64 (by kernel_rfl) rfl
theorem cmpLays_order (blk off size : Nat) (w : World) : Go.Proofs.CmpLays Tryz.prog 64 #[] r3L 3 ord13 blk off size w :=
  fun _ _ _ _ x y => order13_any x y _
theorem isAggU : ∀ w, (isAgg (sortR_ren.t 24)).run Tryz.prog w = .ok true w := Tryz.isAgg72
theorem sizeOfU : ∀ w, (Go.sizeOf (sortR_ren.t 24)).run Tryz.prog w = .ok 3 w := Tryz.sizeOf72
theorem flatK_get (d : Array Ru) (t : Nat) (h : t < d.size * 3) : (Go.Sort.flatK r3L 3 d)[t]? = (d.toList.flatMap r3L)[t]? := by
  have hq : t / 3 < d.toList.length := by simp; omega
  have e : t = t / 3 * 3 + t % 3 := by omega
  have hm : t % 3 < 3 := Nat.mod_lt _ (by decide)
  rw [Array.getElem?_eq_getElem (by simpa using h), ← getElem!_pos _ t (by simpa using h), Go.Sort.get_flatK _ _ _ _ h]
  conv => rhs; rw [e]
  rw [fl3R _ _ _ hq hm]
  have hq2 : t / 3 < d.size := by omega
  rw [getElem!_pos d (t / 3) hq2, List.getElem?_eq_getElem (by rw [r3L_len]; exact hm), getElem!_pos (r3L d[t / 3]) (t % 3) (by rw [r3L_len]; exact hm)]
  simp
def UG0 (w : World) (v : Value) (L : List Ru) : Prop := GOwn w 72 3 v L.length (L.flatMap r3L)
theorem holds13 {w : World} {g n cap : Nat} {L : List Ru} (h : UG0 w (.slice (some ⟨g, 0, none⟩) n cap) L) : Go.Sort.HoldsK r3L 3 w g 0 L.toArray := by
  rcases h.2 with ⟨hv, _⟩ | ⟨g', cap', cur, hv, hw, hc, hm, hs, ht⟩
  · cases hv
  · simp at hv
    obtain ⟨rfl, rfl, rfl⟩ := hv
    intro j hj
    have hj3 : j < L.toArray.size * 3 := by simpa using hj
    have hj4 : j < L.length * 3 := by simpa using hj3
    rw [Nat.zero_add]
    refine ⟨?_, by simp [World.frozen?, hw]⟩
    have e := flatK_get L.toArray j hj3
    rw [List.toList_toArray, ← ht, List.getElem?_take, if_pos hj4, Array.getElem?_toList] at e
    simp only [World.cell?, hw]
    rw [← e, Array.getElem?_eq_getElem (by simpa using hj), ← getElem!_pos _ j (by simpa using hj)]
    rfl
/-- What the sort leaves. -/
theorem sorted13 {w : World} {g n cap : Nat} {L : List Ru} (h : UG0 w (.slice (some ⟨g, 0, none⟩) n cap) L) (d' : Array Ru) (hd : d'.size = L.length) (m : Nat) (os : Array Obj) :
    UG0 (Go.Proofs.sortWorldK r3L 3 w g 0 m d' os) (.slice (some ⟨g, 0, none⟩) n cap) d'.toList ∧ ∀ base, base ≤ g → Below base w (Go.Proofs.sortWorldK r3L 3 w g 0 m d' os) := by
  rcases h.2 with ⟨hv, _⟩ | ⟨g', cap', cur, hv, hw, hc, hm, hs, ht⟩
  · cases hv
  · simp at hv
    obtain ⟨rfl, rfl, rfl⟩ := hv
    have hgl : g < w.heap.size := (Array.getElem?_eq_some_iff.1 hw).1
    have hheap : ∀ k, k < w.heap.size → (Go.Proofs.sortWorldK r3L 3 w g 0 m d' os).heap[k]? = if g = k then some (.cells (Go.Sort.putCells id 0 (Go.Sort.flatK r3L 3 d') cur) 72 (0, 0)) else w.heap[k]? := fun k hk => by
      unfold Go.Proofs.sortWorldK Go.Sort.putRowK Go.Sort.putRow Go.Sort.mapBlock Go.Sort.grow Go.Sort.ahead
      simp only
      rw [Array.getElem?_append_left (by simpa using hk), Array.getElem?_modify]
      by_cases e : g = k
      · subst e
        simp [hw, Go.Sort.onCells]
      · simp [e]
    have hl : d'.toList.length = L.length := by simpa using hd
    refine ⟨⟨by rw [fl3_len], .inr ⟨g, cap, Go.Sort.putCells id 0 (Go.Sort.flatK r3L 3 d') cur, by rw [hl], ?_, by omega, hm, ?_, ?_⟩⟩, fun base hg => ?_⟩
    · rw [hheap g hgl, if_pos rfl]
    · simpa [Go.Sort.putCells] using hs
    · apply List.ext_getElem?
      intro t
      rw [List.getElem?_take]
      split
      · rename_i ht2
        rw [Array.getElem?_toList, Go.Sort.putCells, Array.getElem?_mapIdx]
        have htc : t < cur.size := by rw [hl] at ht2; have := Nat.mul_le_mul_right 3 hc; omega
        rw [Array.getElem?_eq_getElem htc, Option.map_some, if_pos ⟨Nat.zero_le _, by rw [Go.Sort.size_flatK, hd]; rw [hl] at ht2; omega⟩]
        have := flatK_get d' t (by rw [hd]; rw [hl] at ht2; exact ht2)
        rw [← this, Array.getElem?_eq_getElem (by rw [Go.Sort.size_flatK, hd]; rw [hl] at ht2; exact ht2), ← getElem!_pos _ t (by rw [Go.Sort.size_flatK, hd]; rw [hl] at ht2; exact ht2)]
        rfl
      · rename_i ht2
        rw [List.getElem?_eq_none (by rw [fl3_len]; omega)]
    · refine ⟨rfl, rfl, rfl, ?_, fun k hk => ?_⟩
      · show w.heap.size ≤ ((w.heap.modify g _) ++ os).size
        simp
      · rw [hheap k (by omega), if_neg (by omega)]
end Go.Proofs.YtilbffgpniomcaaGreatDoor

/- manifest: without. -/
namespace Go.Proofs.YtilbffgpniomcaaGreatDoor
open Go.RowKit Go.Shelf

set_option maxHeartbeats 1000000 in
theorem sort13_some (g n cap : Nat) (L : List Ru) (w : World) (hO : UG0 w (.slice (some ⟨g, 0, none⟩) n cap) L) (hL : L.length ≤ 10000) :
    Calls Tryz.prog 63 #[.slice (some ⟨g, 0, none⟩) n cap, .func (.func 64) #[] #[]] w fun e w' => e = .returned (.tuple #[]) ∧ ∃ L', L'.Perm L ∧ wk L' ∧ UG0 w' (.slice (some ⟨g, 0, none⟩) n cap) L' ∧ ∀ base, base ≤ g → Below base w w' := by
  have hn : n = L.length := by
    rcases hO.2 with ⟨hv, _⟩ | ⟨g', cap', cur, hv, _⟩
    · cases hv
    · simp at hv; exact hv.2.1
  subst hn
  obtain ⟨cur0, hc0⟩ := GOwn.block hO (k := g) rfl
  have hgl : g < w.heap.size := (Array.getElem?_eq_some_iff.1 hc0).1
  have hcon := Go.Proofs.AnyQ.slices_SortFunc sortR 3 isAggU sizeOfU r3L r3L_len (fun x v hv => by simp [r3L] at hv; rcases hv with rfl | rfl | rfl <;> rfl) ord13 swo13 64 #[] g 0 cap L.toArray w eg_order (cmpLays_order g 0 L.toArray.size w) (holds13 hO) hgl (by simp; omega)
  change Calls Tryz.prog 63 _ _ _ at hcon
  refine Calls.mono (show Calls Tryz.prog 63 #[.slice (some ⟨g, 0, none⟩) L.length cap, .func (.func 64) #[] #[]] w _ from hcon) ?_
  rintro e w' ⟨rfl, d', m, os, hp, hs, rfl⟩
  have hd : d'.size = L.length := by have := hp.1; simpa using this
  obtain ⟨h1, h2⟩ := sorted13 hO d' hd m os
  refine ⟨rfl, d'.toList, ?_, ?_, h1, h2⟩
  · have := hp.2.2
    rw [Array.extract_eq_self_of_le (by rw [hd]; simp), Array.extract_eq_self_of_le (by simp)] at this
    simpa using this
  · unfold wk
    rw [List.pairwise_iff_getElem]
    intro i j hi hj hij
    have := hs i j (Nat.zero_le _) hij (by simpa [hd] using hj)
    rw [lt13, decide_eq_false_iff_not, getElem!_pos d' i (by simpa using hi), getElem!_pos d' j (by simpa using hj)] at this
    simpa using this
theorem dropF_app : ∀ (a b : List Int) (l : List Ru), dropF l (a ++ b) = (dropF l a).bind fun l' => dropF l' b
  | [], b, l => rfl
  | f :: a, b, l => by
    simp only [List.cons_append, dropF]
    cases drop1 l f with
    | none => rfl
    | some l' => exact dropF_app a b l'
theorem dropF_one (l : List Ru) (f : Int) : dropF l [f] = drop1 l f := by
  simp only [dropF]
  cases drop1 l f <;> rfl
theorem drop1_found {l : List Ru} {f : Int} {k : Nat} (hk : k < l.length) (hu : unl l) (hf : l[k].f = f) (hn : ∀ j (hj : j < l.length), j < k → l[j].f ≠ f) : drop1 l f = some (l.eraseIdx k) ∧ unl (l.eraseIdx k) := by
  have e := drop_at hk hu fun j hj => by rw [hf]; exact hn j (by omega) hj
  rw [hf] at e
  have e2 : l.eraseIdx k = l.filter fun r => !decide (r.f = f) := by rw [List.eraseIdx_eq_take_drop_succ]; exact e
  refine ⟨?_, by rw [e2]; exact unl_filter hu _⟩
  unfold drop1
  rw [if_pos (by rw [List.any_eq_true]; exact ⟨l[k], List.getElem_mem hk, by simpa using hf⟩), e2]
theorem drop1_none {l : List Ru} {f : Int} (h : ∀ r ∈ l, r.f ≠ f) : drop1 l f = none := by
  unfold drop1
  rw [if_neg (by simp only [List.any_eq_true, decide_eq_true_eq, not_exists, not_and]; exact h)]
theorem UOwn.below {w w' : World} {base : Nat} {v : Value} {L : List Ru} (h : UOwn w base v L) (hb : Below w.heap.size w w') : UOwn w' base v L := by
  refine ⟨h.1, ?_⟩
  rcases h.2 with h2 | ⟨g, cap, cur, hv, hg, hw, r⟩
  · exact .inl h2
  · exact .inr ⟨g, cap, cur, hv, hg, (hb.block g (Array.getElem?_eq_some_iff.1 hw).1).trans hw, r⟩
def WoP (w : World) (o : Option (List Ru)) (e : Ending) (w' : World) : Prop := match o with
  | none => e = .returned (.tuple #[.slice none 0 0, .bool false]) ∧ Below w.heap.size w w'
  | some L => ∃ v, e = .returned (.tuple #[v, .bool true]) ∧ UOwn w' w.heap.size v L ∧ Below w.heap.size w w'
set_option maxRecDepth 100000 in
set_option maxHeartbeats 2000000 in
theorem without_any (v fv : Value) (L : List Ru) (fs : List Int) (w : World) (h : RuR w v L) (hf : JR w fv fs) (hu : unl L) (hL : L.length ≤ 1000) :
    Calls Tryz.prog 62 #[v, fv] w (WoP w (dropF L fs)) := by
  have HR : Hid (RuR w v L) := h
  obtain ⟨va, vc, rfl, _⟩ := h.form
  have HF : Hid (JR w fv fs) := hf
  obtain ⟨fa, fc, rfl, hm⟩ := hf.form
  unfold maxLen at hm
  clear h hf
  obtain ⟨N, HN⟩ : ∃ n, Hid (fs.length = n) := ⟨_, rfl⟩
  rw [HN.out] at HF hm ⊢
  have HU : Hid (unl L) := hu
  clear hu
  go_enter Tryz.func62, Tryz.ntmps62
  go_wp2_with fail
  refine (clone13_any _ L w HR.out hL).mono ?_
  rintro e w1 ⟨v1, rfl, ho1, hb1⟩
  have HO1 : Hid (UOwn w1 w.heap.size v1 L) := ho1
  have HB1 : Hid (Below w.heap.size w w1) := hb1
  clear ho1 hb1
  go_wp2_with fail
  go_loopw [6, 14] (fun o i wr => ∃ (j : Nat) (L' : List Ru), i = .int .i64 (j : Int) ∧ j ≤ N ∧ L'.length ≤ 1000 ∧ Hid (UOwn wr w.heap.size o L') ∧ Hid (unl L') ∧ Hid (dropF L (fs.take j) = some L') ∧ Hid (Below w.heap.size w wr)) (fun _ i _ => N - (intOf i).toNat)
  case atStart => exact ⟨0, L, rfl, by omega, hL, HO1.out, HU.out, rfl, HB1.out⟩
  case round =>
    obtain ⟨j, L', rfl, hj, hL', HO, HU', HD, HB⟩ := hrel
    by_cases hlt : j < N
    · have hlt' : (j : Int) < (N : Int) := by omega
      have hjl : j < fs.length := by rw [HN.out]; exact hlt
      obtain ⟨f, Hf⟩ := hid_ex fs[j]
      have HT : Hid (dropF L (fs.take (j + 1)) = drop1 L' f) := by
        unfold Hid
        rw [snocI hjl Hf.out, dropF_app, HD.out, Option.bind_some, dropF_one]
      obtain ⟨b, off, rfl, hbw, c0⟩ := (HF.out.below HB.out).at hjl Hf.out
      obtain ⟨oa, oc, hov, _⟩ := (gown_ur HO.out.gown).r.form
      obtain ⟨M, HM⟩ : ∃ n, Hid (L'.length = n) := ⟨_, rfl⟩
      rw [HM.out] at hov hL'
      subst hov
      go_wp2_with fail
      refine (place13_any _ L' f wr (gown_ur HO.out.gown).r).mono ?_
      rintro e w2 ⟨hb2, hp⟩
      have HB2 : Hid (Below w.heap.size w w2) := HB.out.trans (hb2.mono HB.out.size)
      have HO2 : Hid (UOwn w2 w.heap.size (.slice oa M oc) L') := HO.out.below hb2
      clear hb2 c0
      rcases hp with ⟨k, hk, rfl, hkf, hkn⟩ | ⟨rfl, hnf⟩
      · obtain ⟨hd1, hd2⟩ := drop1_found hk HU'.out hkf hkn
        have HU3 : Hid (unl (L'.eraseIdx k)) := hd2
        have HD3 : Hid (dropF L (fs.take (j + 1)) = some (L'.eraseIdx k)) := HT.out.trans hd1
        have HK : Hid (k < L'.length) := hk
        clear hkf hkn hd1 hd2 hk
        have hk3 : k < M := by rw [← HM.out]; exact HK.out
        have hk0 : ¬ (k : Int) < 0 := by omega
        go_wp2_with fail
        refine (delete13_any _ L' k w.heap.size w2 HO2.out HK.out (by rw [HM.out]; exact hL') HB2.out.size).mono ?_
        rintro e w3 ⟨v3, rfl, ho3, hb3⟩
        have HO3 : Hid (UOwn w3 w.heap.size v3 (L'.eraseIdx k)) := ho3
        have HB3 : Hid (Below w.heap.size w w3) := HB2.out.trans hb3
        have hl3 : (L'.eraseIdx k).length ≤ 1000 := by rw [List.length_eraseIdx, if_pos HK.out, HM.out]; omega
        clear ho3 hb3
        go_wp2_with fail
        go_roundw
        case rel => exact ⟨j + 1, _, by go_num, by omega, hl3, HO3, HU3, HD3, HB3⟩
        case measure => simp [intOf]; omega
      · have HNone : Hid (dropF L fs = none) := by
          unfold Hid
          have e : fs = fs.take (j + 1) ++ fs.drop (j + 1) := (List.take_append_drop _ _).symm
          rw [e, dropF_app, HT.out, drop1_none hnf]; rfl
        clear hnf
        go_wp2_with fail
        go_ret2
        rw [HNone.out]
        exact ⟨rfl, HB2.out⟩
    · have hlt' : ¬ (j : Int) < (N : Int) := by omega
      have HE : Hid (dropF L fs = some L') := by
        have := HD.out
        rwa [List.take_of_length_le (by rw [HN.out]; omega)] at this
      go_wp2_with fail
      go_ret2
      rw [HE.out]
      exact ⟨_, rfl, HO.out, HB.out⟩
end Go.Proofs.YtilbffgpniomcaaGreatDoor
