/- The contracts of slices.swapRangeCmpFunc and rotateCmpFunc of items (written by mkfl17.py). -/
import Derived.Test.YtbadjigfcncfcaaJ7
namespace Go.Proofs.Ytbadjigfcncfcaa
open Go.RowKit Go.Shelf

/-- The nine cells of an item. -/
def NineAt (V : World) (g o : Nat) (P : It) (pa : Option Addr) (pn pc : Nat) : Prop :=
  V.cell? ⟨g, o, none⟩ = some (.slice pa pn pc) ∧ V.cell? ⟨g, o + 1, none⟩ = some (.int .i64 P.f) ∧ V.cell? ⟨g, o + 2, none⟩ = some (.int .i64 (P.g : Int)) ∧ V.cell? ⟨g, o + 3, none⟩ = some (.int .u64 P.a.c) ∧ V.cell? ⟨g, o + 4, none⟩ = some (.bool P.a.o) ∧ V.cell? ⟨g, o + 5, none⟩ = some (.int .i64 (hi P.a.s)) ∧ V.cell? ⟨g, o + 6, none⟩ = some (.int .u64 (lo P.a.s)) ∧ V.cell? ⟨g, o + 7, none⟩ = some (.int .i64 P.a.mn) ∧ V.cell? ⟨g, o + 8, none⟩ = some (.int .i64 P.a.mx)
theorem PmI.nine {w : World} {base g n cap : Nat} {its0 l : List It} {W : World} (h : PmI w base g n cap its0 l W) {X : Nat} (hX : X < n) : ∃ (P : It) (pa : Option Addr) (pn pc : Nat), l[X]? = some P ∧ c9 P = [.slice pa pn pc, .int .i64 P.f, .int .i64 (P.g : Int), .int .u64 P.a.c, .bool P.a.o, .int .i64 (hi P.a.s), .int .u64 (lo P.a.s), .int .i64 P.a.mn, .int .i64 P.a.mx] ∧ ∀ V, Below W.heap.size W V → NineAt V g (X * 9) P pa pn pc := by
  have hl := h.len
  have hXl : X < l.length := by omega
  obtain ⟨pa, pc, hpv, _⟩ := (h.s l[X] (List.getElem_mem hXl)).1.form
  refine ⟨l[X], pa, l[X].D.length, pc, List.getElem?_eq_getElem hXl, by unfold c9; rw [hpv], fun V hV => ?_⟩
  have hgl : g < W.heap.size := (World.ownsRow.lt h.r g rfl).2
  have q := fun t (ht : t < 9) => (hV.cell (p := ⟨g, X * 9 + t, none⟩) hgl).trans (h.cells hXl ht)
  have q0 := q 0 (by decide)
  simp only [c9, List.getElem_cons_zero, Nat.add_zero] at q0
  rw [hpv] at q0
  exact ⟨q0, q 1 (by decide), q 2 (by decide), q 3 (by decide), q 4 (by decide), q 5 (by decide), q 6 (by decide), q 7 (by decide), q 8 (by decide)⟩
theorem PmI.swap2 {w : World} {base g n cap : Nat} {its0 l : List It} {A B C : World} {cur cur2 : Array Value} {X Y : Nat} {P Q : It} (h : PmI w base g n cap its0 l A) (hP : l[X]? = some P) (hQ : l[Y]? = some Q) (hcur : A.heap[g]? = some (.cells cur 75)) (hB : StW A B g (X * 9) cur 75 (c9 Q))
    (hc2 : B.heap[g]? = some (.cells cur2 75)) (hC : StW B C g (Y * 9) cur2 75 (c9 P)) : ∃ l', PmI w base g n cap its0 l' C := by
  obtain ⟨hx, rfl⟩ := List.getElem?_eq_some_iff.1 hP
  obtain ⟨hy, rfl⟩ := List.getElem?_eq_some_iff.1 hQ
  exact ⟨_, h.swap hx hy hcur hB (fun c h2 => stW_any hc2 h2 hC)⟩
theorem PmI.ord {w : World} {base g n cap : Nat} {its0 l : List It} {W : World} {X Y : Nat} {P Q : It} {pa qa : Option Addr} {pn pc qn qc : Nat} (h : PmI w base g n cap its0 l W) (hP : l[X]? = some P) (hQ : l[Y]? = some Q)
    (hPc : c9 P = [.slice pa pn pc, .int .i64 P.f, .int .i64 (P.g : Int), .int .u64 P.a.c, .bool P.a.o, .int .i64 (hi P.a.s), .int .u64 (lo P.a.s), .int .i64 P.a.mn, .int .i64 P.a.mx])
    (hQc : c9 Q = [.slice qa qn qc, .int .i64 Q.f, .int .i64 (Q.g : Int), .int .u64 Q.a.c, .bool Q.a.o, .int .i64 (hi Q.a.s), .int .u64 (lo Q.a.s), .int .i64 Q.a.mn, .int .i64 Q.a.mx]) :
    ∀ V, Below W.heap.size W V → Calls Try.prog 36 #[.agg #[.slice pa pn pc, .int .i64 P.f, .int .i64 (P.g : Int), .int .u64 P.a.c, .bool P.a.o, .int .i64 (hi P.a.s), .int .u64 (lo P.a.s), .int .i64 P.a.mn, .int .i64 P.a.mx], .agg #[.slice qa qn qc, .int .i64 Q.f, .int .i64 (Q.g : Int), .int .u64 Q.a.c, .bool Q.a.o, .int .i64 (hi Q.a.s), .int .u64 (lo Q.a.s), .int .i64 Q.a.mn, .int .i64 Q.a.mx]] V (OdPost V) := by
  intro V hV
  have sP := h.s P (List.mem_of_getElem? hP)
  have sQ := h.s Q (List.mem_of_getElem? hQ)
  have hod := order15_any P Q V (sP.1.below hV) (sQ.1.below hV) sP.2.2 sQ.2.2
  have e1 : itV P = .agg (c9 P).toArray := rfl
  have e2 : itV Q = .agg (c9 Q).toArray := rfl
  rw [e1, e2, hPc, hQc] at hod
  exact hod
theorem pm_cap {w : World} {base g n cap : Nat} {its0 its : List It} {W : World} (h : PmI w base g n cap its0 its W) : n ≤ cap ∧ cap ≤ 9223372036854775807 := by
  rcases h.r.2 with ⟨q, _⟩ | ⟨g', c', cur0, q, _, hw, hc1, hm, hs, _⟩
  · simp at q
  · simp at q
    obtain ⟨rfl, rfl⟩ := q
    unfold maxLen at hm
    exact ⟨hc1, hm⟩
set_option maxRecDepth 100000 in
set_option maxHeartbeats 8000000 in
theorem swapRange_any (w : World) (base g n cap : Nat) (its0 its : List It) (W : World) (h : PmI w base g n cap its0 its W) (hn : n ≤ 100000) (a b k : Nat) (ha : a + k ≤ n) (hb : b + k ≤ n) :
    Calls Try.prog 91 #[.slice (some ⟨g, 0, none⟩) n cap, .int .i64 (a : Int), .int .i64 (b : Int), .int .i64 (k : Int), .func (.func 36) #[] #[]] W (IsPost w base g n cap its0) := by
  have HI0 : Hid (PmI w base g n cap its0 its W) := h
  have hcapm := pm_cap h
  clear h
  go_enter Try.func91, Try.ntmps91
  go_wp2_with fail
  go_loopw [10] (fun iv wr => ∃ (i : Nat) (l : List It), iv = .int .i64 (i : Int) ∧ i ≤ k ∧ Hid (PmI w base g n cap its0 l wr)) (fun iv _ => k - (intOf iv).toNat)
  case atStart => exact ⟨0, its, rfl, by omega, HI0⟩
  case round =>
    clear HI0
    obtain ⟨i, l, rfl, hik, HI⟩ := hrel
    by_cases hlt : i < k
    · obtain ⟨X, HXe⟩ := hid_ex (a + i)
      obtain ⟨Y, HYe⟩ := hid_ex (b + i)
      have hXn : X < n := by rw [HXe.out]; omega
      have hYn : Y < n := by rw [HYe.out]; omega
      obtain ⟨P, pa, pn, pc, hPg, hPc, hPn⟩ := HI.out.nine hXn
      obtain ⟨Q, qa, qn, qc, hQg, hQc, hQn⟩ := HI.out.nine hYn
      have HPg : Hid _ := hPg
      have HQg : Hid _ := hQg
      have HPc : Hid _ := hPc
      have HQc : Hid _ := hQc
      obtain ⟨c0, c1, c2, c3, c4, c5, c6, c7, c8⟩ := hPn _ (Below.refl _ _)
      obtain ⟨d0, d1, d2, d3, d4, d5, d6, d7, d8⟩ := hQn _ (Below.refl _ _)
      obtain ⟨cur, hcur, hcs⟩ := pmI_row HI.out
      have HCU : Hid _ := hcur
      clear hcur hPg hQg hPc hQc hPn hQn
      go_wp2_with fail
      refine wp_region_noPanic ?_
      refine wp_region_S 21 (fun _ => True) (fun w' => w'.cell? ⟨g, X * 9, none⟩ = some (.slice pa pn pc) ∧ w'.cell? ⟨g, X * 9 + 1, none⟩ = some (.int .i64 P.f) ∧ w'.cell? ⟨g, X * 9 + 2, none⟩ = some (.int .i64 (P.g : Int)) ∧ w'.cell? ⟨g, X * 9 + 3, none⟩ = some (.int .u64 P.a.c) ∧ w'.cell? ⟨g, X * 9 + 4, none⟩ = some (.bool P.a.o) ∧ w'.cell? ⟨g, X * 9 + 5, none⟩ = some (.int .i64 (hi P.a.s)) ∧ w'.cell? ⟨g, X * 9 + 6, none⟩ = some (.int .u64 (lo P.a.s)) ∧ w'.cell? ⟨g, X * 9 + 7, none⟩ = some (.int .i64 P.a.mn) ∧ w'.cell? ⟨g, X * 9 + 8, none⟩ = some (.int .i64 P.a.mx) ∧ w'.cell? ⟨g, Y * 9, none⟩ = some (.slice qa qn qc) ∧ w'.cell? ⟨g, Y * 9 + 1, none⟩ = some (.int .i64 Q.f) ∧ w'.cell? ⟨g, Y * 9 + 2, none⟩ = some (.int .i64 (Q.g : Int)) ∧ w'.cell? ⟨g, Y * 9 + 3, none⟩ = some (.int .u64 Q.a.c) ∧ w'.cell? ⟨g, Y * 9 + 4, none⟩ = some (.bool Q.a.o) ∧ w'.cell? ⟨g, Y * 9 + 5, none⟩ = some (.int .i64 (hi Q.a.s)) ∧ w'.cell? ⟨g, Y * 9 + 6, none⟩ = some (.int .u64 (lo Q.a.s)) ∧ w'.cell? ⟨g, Y * 9 + 7, none⟩ = some (.int .i64 Q.a.mn) ∧ w'.cell? ⟨g, Y * 9 + 8, none⟩ = some (.int .i64 Q.a.mx)) (by kernel_rfl) ?_ ?_ (fun hHeld => ?_)
      · trivial
      · exact ⟨c0, c1, c2, c3, c4, c5, c6, c7, c8, d0, d1, d2, d3, d4, d5, d6, d7, d8⟩
      refine wpAnyS_take (i := 0) (v := .slice (some ⟨g, 0, none⟩) n cap) _ rfl (by kernel_rfl) (by kernel_rfl) (by kernel_rfl) (by kernel_rfl) (by kernel_rfl) rfl (fun _ _ _ h => h) (Or.inl ⟨by rfl, ?_⟩) hHeld (fun hHeld => ?_)
      · (intro w1 hSw; have hSw := hSw.1; (try dsimp only at hSw); go_simp)
      simp only [List.getElem_toArray, List.getElem_cons_zero, Act.put, List.setIfInBounds_toArray, List.set_cons_zero, List.set_cons_succ]
      refine wpAnyS_take (i := 1) (v := .int .i64 (a : Int)) _ rfl (by kernel_rfl) (by kernel_rfl) (by kernel_rfl) (by kernel_rfl) (by kernel_rfl) rfl (fun _ _ _ h => h) (Or.inl ⟨by rfl, ?_⟩) hHeld (fun hHeld => ?_)
      · (intro w1 hSw; have hSw := hSw.1; (try dsimp only at hSw); go_simp)
      simp only [List.getElem_toArray, List.getElem_cons_succ, List.getElem_cons_zero, Act.put, List.setIfInBounds_toArray, List.set_cons_zero, List.set_cons_succ]
      refine wpAnyS_take (i := 2) (v := .int .i64 (i : Int)) _ rfl (by kernel_rfl) (by kernel_rfl) (by kernel_rfl) (by kernel_rfl) (by kernel_rfl) rfl (fun _ _ _ h => h) (Or.inl ⟨by rfl, ?_⟩) hHeld (fun hHeld => ?_)
      · (intro w1 hSw; have hSw := hSw.1; (try dsimp only at hSw); go_simp)
      simp only [List.getElem_toArray, List.getElem_cons_succ, List.getElem_cons_zero, Act.put, List.setIfInBounds_toArray, List.set_cons_zero, List.set_cons_succ]
      refine wpAnyS_take (i := 3) (v := .int .i64 (X : Int)) _ rfl (by kernel_rfl) (by kernel_rfl) (by kernel_rfl) (by kernel_rfl) (by kernel_rfl) rfl (fun _ _ _ h => h) (Or.inl ⟨by rfl, ?_⟩) hHeld (fun hHeld => ?_)
      · (intro w1 hSw; have hSw := hSw.1; (try dsimp only at hSw); go_simp; (first | (rw [IntKind.wrap_i64]; (try have hq := HXe.out); (try have hr := HYe.out); omega) | ((try have hq := HXe.out); (try have hr := HYe.out); omega)))
      simp only [List.getElem_toArray, List.getElem_cons_succ, List.getElem_cons_zero, Act.put, List.setIfInBounds_toArray, List.set_cons_zero, List.set_cons_succ]
      refine wpAnyS_take (i := 4) (v := .slice (some ⟨g, 0, none⟩) n cap) _ rfl (by kernel_rfl) (by kernel_rfl) (by kernel_rfl) (by kernel_rfl) (by kernel_rfl) rfl (fun _ _ _ h => h) (Or.inl ⟨by rfl, ?_⟩) hHeld (fun hHeld => ?_)
      · (intro w1 hSw; have hSw := hSw.1; (try dsimp only at hSw); go_simp)
      simp only [List.getElem_toArray, List.getElem_cons_succ, List.getElem_cons_zero, Act.put, List.setIfInBounds_toArray, List.set_cons_zero, List.set_cons_succ]
      refine wpAnyS_take (i := 5) (v := .int .i64 (b : Int)) _ rfl (by kernel_rfl) (by kernel_rfl) (by kernel_rfl) (by kernel_rfl) (by kernel_rfl) rfl (fun _ _ _ h => h) (Or.inl ⟨by rfl, ?_⟩) hHeld (fun hHeld => ?_)
      · (intro w1 hSw; have hSw := hSw.1; (try dsimp only at hSw); go_simp)
      simp only [List.getElem_toArray, List.getElem_cons_succ, List.getElem_cons_zero, Act.put, List.setIfInBounds_toArray, List.set_cons_zero, List.set_cons_succ]
      refine wpAnyS_take (i := 6) (v := .int .i64 (i : Int)) _ rfl (by kernel_rfl) (by kernel_rfl) (by kernel_rfl) (by kernel_rfl) (by kernel_rfl) rfl (fun _ _ _ h => h) (Or.inl ⟨by rfl, ?_⟩) hHeld (fun hHeld => ?_)
      · (intro w1 hSw; have hSw := hSw.1; (try dsimp only at hSw); go_simp)
      simp only [List.getElem_toArray, List.getElem_cons_succ, List.getElem_cons_zero, Act.put, List.setIfInBounds_toArray, List.set_cons_zero, List.set_cons_succ]
      refine wpAnyS_take (i := 7) (v := .int .i64 (Y : Int)) _ rfl (by kernel_rfl) (by kernel_rfl) (by kernel_rfl) (by kernel_rfl) (by kernel_rfl) rfl (fun _ _ _ h => h) (Or.inl ⟨by rfl, ?_⟩) hHeld (fun hHeld => ?_)
      · (intro w1 hSw; have hSw := hSw.1; (try dsimp only at hSw); go_simp; (first | (rw [IntKind.wrap_i64]; (try have hq := HXe.out); (try have hr := HYe.out); omega) | ((try have hq := HXe.out); (try have hr := HYe.out); omega)))
      simp only [List.getElem_toArray, List.getElem_cons_succ, List.getElem_cons_zero, Act.put, List.setIfInBounds_toArray, List.set_cons_zero, List.set_cons_succ]
      refine wpAnyS_take (i := 8) (v := .slice (some ⟨g, 0, none⟩) n cap) _ rfl (by kernel_rfl) (by kernel_rfl) (by kernel_rfl) (by kernel_rfl) (by kernel_rfl) rfl (fun _ _ _ h => h) (Or.inl ⟨by rfl, ?_⟩) hHeld (fun hHeld => ?_)
      · (intro w1 hSw; have hSw := hSw.1; (try dsimp only at hSw); go_simp)
      simp only [List.getElem_toArray, List.getElem_cons_succ, List.getElem_cons_zero, Act.put, List.setIfInBounds_toArray, List.set_cons_zero, List.set_cons_succ]
      refine wpAnyS_take (i := 9) (v := .int .i64 (b : Int)) _ rfl (by kernel_rfl) (by kernel_rfl) (by kernel_rfl) (by kernel_rfl) (by kernel_rfl) rfl (fun _ _ _ h => h) (Or.inl ⟨by rfl, ?_⟩) hHeld (fun hHeld => ?_)
      · (intro w1 hSw; have hSw := hSw.1; (try dsimp only at hSw); go_simp)
      simp only [List.getElem_toArray, List.getElem_cons_succ, List.getElem_cons_zero, Act.put, List.setIfInBounds_toArray, List.set_cons_zero, List.set_cons_succ]
      refine wpAnyS_take (i := 10) (v := .int .i64 (i : Int)) _ rfl (by kernel_rfl) (by kernel_rfl) (by kernel_rfl) (by kernel_rfl) (by kernel_rfl) rfl (fun _ _ _ h => h) (Or.inl ⟨by rfl, ?_⟩) hHeld (fun hHeld => ?_)
      · (intro w1 hSw; have hSw := hSw.1; (try dsimp only at hSw); go_simp)
      simp only [List.getElem_toArray, List.getElem_cons_succ, List.getElem_cons_zero, Act.put, List.setIfInBounds_toArray, List.set_cons_zero, List.set_cons_succ]
      refine wpAnyS_take (i := 11) (v := .int .i64 (Y : Int)) _ rfl (by kernel_rfl) (by kernel_rfl) (by kernel_rfl) (by kernel_rfl) (by kernel_rfl) rfl (fun _ _ _ h => h) (Or.inl ⟨by rfl, ?_⟩) hHeld (fun hHeld => ?_)
      · (intro w1 hSw; have hSw := hSw.1; (try dsimp only at hSw); go_simp; (first | (rw [IntKind.wrap_i64]; (try have hq := HXe.out); (try have hr := HYe.out); omega) | ((try have hq := HXe.out); (try have hr := HYe.out); omega)))
      simp only [List.getElem_toArray, List.getElem_cons_succ, List.getElem_cons_zero, Act.put, List.setIfInBounds_toArray, List.set_cons_zero, List.set_cons_succ]
      refine wpAnyS_take (i := 12) (v := .pointer (some ⟨g, Y * 9, none⟩)) _ rfl (by kernel_rfl) (by kernel_rfl) (by kernel_rfl) (by kernel_rfl) (by kernel_rfl) rfl (fun _ _ _ h => h) (Or.inl ⟨by rfl, ?_⟩) hHeld (fun hHeld => ?_)
      · (intro w1 hSw; have hSw := hSw.1; (try dsimp only at hSw); go_simp)
      simp only [List.getElem_toArray, List.getElem_cons_succ, List.getElem_cons_zero, Act.put, List.setIfInBounds_toArray, List.set_cons_zero, List.set_cons_succ]
      refine wpAnyS_take (i := 13) (v := .agg #[.slice qa qn qc, .int .i64 Q.f, .int .i64 (Q.g : Int), .int .u64 Q.a.c, .bool Q.a.o, .int .i64 (hi Q.a.s), .int .u64 (lo Q.a.s), .int .i64 Q.a.mn, .int .i64 Q.a.mx]) true rfl (by kernel_rfl) (by kernel_rfl) (by kernel_rfl) (by kernel_rfl) (by kernel_rfl) (by kernel_rfl) (fun _ _ _ h => h) (Or.inl ⟨by rfl, ?_⟩) hHeld (fun hHeld => ?_)
      · (intro w1 hSw; have hSw2 := hSw.2 rfl; have hSw := hSw.1; (try dsimp only at hSw hSw2); go_simp)
      simp only [List.getElem_toArray, List.getElem_cons_succ, List.getElem_cons_zero, Act.put, List.setIfInBounds_toArray, List.set_cons_zero, List.set_cons_succ]
      refine wpAnyS_take (i := 14) (v := .slice (some ⟨g, 0, none⟩) n cap) _ rfl (by kernel_rfl) (by kernel_rfl) (by kernel_rfl) (by kernel_rfl) (by kernel_rfl) rfl (fun _ _ _ h => h) (Or.inl ⟨by rfl, ?_⟩) hHeld (fun hHeld => ?_)
      · (intro w1 hSw; have hSw := hSw.1; (try dsimp only at hSw); go_simp)
      simp only [List.getElem_toArray, List.getElem_cons_succ, List.getElem_cons_zero, Act.put, List.setIfInBounds_toArray, List.set_cons_zero, List.set_cons_succ]
      refine wpAnyS_take (i := 15) (v := .int .i64 (a : Int)) _ rfl (by kernel_rfl) (by kernel_rfl) (by kernel_rfl) (by kernel_rfl) (by kernel_rfl) rfl (fun _ _ _ h => h) (Or.inl ⟨by rfl, ?_⟩) hHeld (fun hHeld => ?_)
      · (intro w1 hSw; have hSw := hSw.1; (try dsimp only at hSw); go_simp)
      simp only [List.getElem_toArray, List.getElem_cons_succ, List.getElem_cons_zero, Act.put, List.setIfInBounds_toArray, List.set_cons_zero, List.set_cons_succ]
      refine wpAnyS_take (i := 16) (v := .int .i64 (i : Int)) _ rfl (by kernel_rfl) (by kernel_rfl) (by kernel_rfl) (by kernel_rfl) (by kernel_rfl) rfl (fun _ _ _ h => h) (Or.inl ⟨by rfl, ?_⟩) hHeld (fun hHeld => ?_)
      · (intro w1 hSw; have hSw := hSw.1; (try dsimp only at hSw); go_simp)
      simp only [List.getElem_toArray, List.getElem_cons_succ, List.getElem_cons_zero, Act.put, List.setIfInBounds_toArray, List.set_cons_zero, List.set_cons_succ]
      refine wpAnyS_take (i := 17) (v := .int .i64 (X : Int)) _ rfl (by kernel_rfl) (by kernel_rfl) (by kernel_rfl) (by kernel_rfl) (by kernel_rfl) rfl (fun _ _ _ h => h) (Or.inl ⟨by rfl, ?_⟩) hHeld (fun hHeld => ?_)
      · (intro w1 hSw; have hSw := hSw.1; (try dsimp only at hSw); go_simp; (first | (rw [IntKind.wrap_i64]; (try have hq := HXe.out); (try have hr := HYe.out); omega) | ((try have hq := HXe.out); (try have hr := HYe.out); omega)))
      simp only [List.getElem_toArray, List.getElem_cons_succ, List.getElem_cons_zero, Act.put, List.setIfInBounds_toArray, List.set_cons_zero, List.set_cons_succ]
      refine wpAnyS_take (i := 18) (v := .pointer (some ⟨g, X * 9, none⟩)) _ rfl (by kernel_rfl) (by kernel_rfl) (by kernel_rfl) (by kernel_rfl) (by kernel_rfl) rfl (fun _ _ _ h => h) (Or.inl ⟨by rfl, ?_⟩) hHeld (fun hHeld => ?_)
      · (intro w1 hSw; have hSw := hSw.1; (try dsimp only at hSw); go_simp)
      simp only [List.getElem_toArray, List.getElem_cons_succ, List.getElem_cons_zero, Act.put, List.setIfInBounds_toArray, List.set_cons_zero, List.set_cons_succ]
      refine wpAnyS_take (i := 19) (v := .agg #[.slice pa pn pc, .int .i64 P.f, .int .i64 (P.g : Int), .int .u64 P.a.c, .bool P.a.o, .int .i64 (hi P.a.s), .int .u64 (lo P.a.s), .int .i64 P.a.mn, .int .i64 P.a.mx]) true rfl (by kernel_rfl) (by kernel_rfl) (by kernel_rfl) (by kernel_rfl) (by kernel_rfl) (by kernel_rfl) (fun _ _ _ h => h) (Or.inl ⟨by rfl, ?_⟩) hHeld (fun hHeld => ?_)
      · (intro w1 hSw; have hSw2 := hSw.2 rfl; have hSw := hSw.1; (try dsimp only at hSw hSw2); go_simp)
      simp only [List.getElem_toArray, List.getElem_cons_succ, List.getElem_cons_zero, Act.put, List.setIfInBounds_toArray, List.set_cons_zero, List.set_cons_succ]
      refine wpAnyS_take (i := 20) (v := .pointer (some ⟨g, X * 9, none⟩)) _ rfl (by kernel_rfl) (by kernel_rfl) (by kernel_rfl) (by kernel_rfl) (by kernel_rfl) rfl (fun _ _ _ h => h) (Or.inl ⟨by rfl, ?_⟩) hHeld (fun hHeld => ?_)
      · (intro w1 hSw; have hSw := hSw.1; (try dsimp only at hSw); go_simp)
      simp only [List.getElem_toArray, List.getElem_cons_succ, List.getElem_cons_zero, Act.put, List.setIfInBounds_toArray, List.set_cons_zero, List.set_cons_succ]
      refine wpAnyS_ready (i := 21) (by kernel_rfl) rfl (fun K hK => ?_)
      rw [if_pos (by rfl)]
      refine wp_storeN _ _ _ rfl g (X * 9) [.slice qa qn qc, .int .i64 Q.f, .int .i64 (Q.g : Int), .int .u64 Q.a.c, .bool Q.a.o, .int .i64 (hi Q.a.s), .int .u64 (lo Q.a.s), .int .i64 Q.a.mn, .int .i64 Q.a.mx] rfl rfl cur _ HCU.out (by simp; omega) (by kernel_rfl) (by kernel_rfl) (fun W0 hW0 => ?_)
      refine hK.out _ _ ⟨?_, fun hno => absurd hno (by decide)⟩ (fun hHeld => ?_)
      · trivial
      clear hK K
      refine wpAnyS_take (i := 22) (v := .pointer (some ⟨g, Y * 9, none⟩)) _ rfl (by kernel_rfl) (by kernel_rfl) (by kernel_rfl) (by kernel_rfl) (by kernel_rfl) rfl (fun _ _ _ h => h) (Or.inl ⟨by rfl, ?_⟩) hHeld (fun hHeld => ?_)
      · (intro w1 hSw; have hSw := hSw.1; (try dsimp only at hSw); go_simp)
      simp only [List.getElem_toArray, List.getElem_cons_succ, List.getElem_cons_zero, Act.put, List.setIfInBounds_toArray, List.set_cons_zero, List.set_cons_succ]
      refine wpAnyS_ready (i := 23) (by kernel_rfl) rfl (fun K hK => ?_)
      rw [if_pos (by rfl)]
      obtain ⟨cur2, hcu2, hcz2, _, _⟩ := hW0.c
      refine wp_storeN _ _ _ rfl g (Y * 9) [.slice pa pn pc, .int .i64 P.f, .int .i64 (P.g : Int), .int .u64 P.a.c, .bool P.a.o, .int .i64 (hi P.a.s), .int .u64 (lo P.a.s), .int .i64 P.a.mn, .int .i64 P.a.mx] rfl rfl cur2 _ hcu2 (by simp; omega) (by kernel_rfl) (by kernel_rfl) (fun W1 hW1 => ?_)
      refine hK.out _ _ ⟨?_, fun hno => absurd hno (by decide)⟩ (fun hHeld => ?_)
      · trivial
      clear hK K
      refine wpAnyS_done (by kernel_rfl) ?_ _
      refine NoPanic.normal ?_
      obtain ⟨l', hl'⟩ := (HI.out.below (Below.refl wr.heap.size wr).drew).swap2 HPg.out HQg.out HCU.out (by rw [HQc.out]; exact hW0) hcu2 (by rw [HPc.out]; exact hW1)
      have HN : Hid (PmI w base g n cap its0 l' W1) := hl'
      clear hW0 hW1 hl' c0 c1 c2 c3 c4 c5 c6 c7 c8 d0 d1 d2 d3 d4 d5 d6 d7 d8 hcu2 hcz2 hcs
      go_wp2_with fail
      go_roundw
      case rel => exact ⟨i + 1, l', by go_num, by omega, HN⟩
      case measure => simp [intOf]; omega
    · have HE : Hid (IsPost w base g n cap its0 (.returned (.tuple #[])) wr) := ⟨⟨_, rfl⟩, l, HI.out⟩
      go_wp2_with fail
      exact bodyPost_end (results_none rfl _ _ _) rfl HE.out
set_option maxRecDepth 100000 in
set_option maxHeartbeats 8000000 in
theorem rotate_any (w : World) (base g n cap : Nat) (its0 its : List It) (W : World) (h : PmI w base g n cap its0 its W) (hn : n ≤ 100000) (a m b : Nat) (ham : a < m) (hmb : m < b) (hbn : b ≤ n) :
    Calls Try.prog 86 #[.slice (some ⟨g, 0, none⟩) n cap, .int .i64 (a : Int), .int .i64 (m : Int), .int .i64 (b : Int), .func (.func 36) #[] #[]] W (IsPost w base g n cap its0) := by
  have HI0 : Hid (PmI w base g n cap its0 its W) := h
  have hcapm := pm_cap h
  clear h
  go_enter Try.func86, Try.ntmps86
  go_wp2_with fail
  go_loopw [10, 11] (fun iv jv wr => ∃ (i j : Nat) (l : List It), iv = .int .i64 (i : Int) ∧ jv = .int .i64 (j : Int) ∧ 0 < i ∧ 0 < j ∧ i ≤ m ∧ m + j ≤ b ∧ Hid (PmI w base g n cap its0 l wr)) (fun iv jv _ => (intOf iv).toNat + (intOf jv).toNat)
  case atStart => exact ⟨m - a, b - m, its, by go_num, by go_num, by omega, by omega, by omega, by omega, HI0⟩
  case round =>
    clear HI0
    obtain ⟨i, j, l, rfl, rfl, hi0, hj0, him, hjb, HI⟩ := hrel
    by_cases hij : i = j
    · subst hij
      have HSW : Hid (Calls Try.prog 91 #[.slice (some ⟨g, 0, none⟩) n cap, .int .i64 ((m : Int) - (i : Int)), .int .i64 (m : Int), .int .i64 (i : Int), .func (.func 36) #[] #[]] wr (IsPost w base g n cap its0)) := by
        have := swapRange_any w base g n cap its0 l wr HI.out hn (m - i) m i (by omega) (by omega)
        rw [show ((m - i : Nat) : Int) = (m : Int) - (i : Int) by omega] at this
        exact this
      go_wp2_with fail
      refine HSW.out.mono ?_
      rintro e w2 ⟨⟨v, rfl⟩, l2, hl2⟩
      have HE : Hid (IsPost w base g n cap its0 (.returned (.tuple #[])) w2) := ⟨⟨_, rfl⟩, l2, hl2⟩
      clear hl2
      go_wp2_with fail
      exact bodyPost_end (results_none rfl _ _ _) rfl HE.out
    · have hbe : ((i : Int) == (j : Int)) = false := by simp; omega
      by_cases hgt : j < i
      · have HSW : Hid (Calls Try.prog 91 #[.slice (some ⟨g, 0, none⟩) n cap, .int .i64 ((m : Int) - (i : Int)), .int .i64 (m : Int), .int .i64 (j : Int), .func (.func 36) #[] #[]] wr (IsPost w base g n cap its0)) := by
          have := swapRange_any w base g n cap its0 l wr HI.out hn (m - i) m j (by omega) (by omega)
          rw [show ((m - i : Nat) : Int) = (m : Int) - (i : Int) by omega] at this
          exact this
        clear hij
        go_wp2_with fail
        refine HSW.out.mono ?_
        rintro e w2 ⟨⟨v, rfl⟩, l2, hl2⟩
        have HN : Hid (PmI w base g n cap its0 l2 w2) := hl2
        clear hl2
        go_wp2_with fail
        go_roundw
        case rel => exact ⟨i - j, j, l2, by go_num, rfl, by omega, by omega, by omega, by omega, HN⟩
        case measure => simp [intOf]; omega
      · have HSW : Hid (Calls Try.prog 91 #[.slice (some ⟨g, 0, none⟩) n cap, .int .i64 ((m : Int) - (i : Int)), .int .i64 ((m : Int) + (j : Int) - (i : Int)), .int .i64 (i : Int), .func (.func 36) #[] #[]] wr (IsPost w base g n cap its0)) := by
          have := swapRange_any w base g n cap its0 l wr HI.out hn (m - i) (m + j - i) i (by omega) (by omega)
          rw [show ((m - i : Nat) : Int) = (m : Int) - (i : Int) by omega, show ((m + j - i : Nat) : Int) = (m : Int) + (j : Int) - (i : Int) by omega] at this
          exact this
        have hlt2 : i < j := by omega
        clear hij
        go_wp2_with fail
        refine HSW.out.mono ?_
        rintro e w2 ⟨⟨v, rfl⟩, l2, hl2⟩
        have HN : Hid (PmI w base g n cap its0 l2 w2) := hl2
        clear hl2
        go_wp2_with fail
        go_roundw
        case rel => exact ⟨i, j - i, l2, rfl, by go_num, by omega, by omega, by omega, by omega, HN⟩
        case measure => simp [intOf]; omega
end Go.Proofs.Ytbadjigfcncfcaa
