/- The contract of Put, where nothing is put. -/
import Derived.Test.YtbeemkcdpmbhmaaS7
namespace Go.Proofs.Ytbeemkcdpmbhmaa
open Go.RowKit

def enc7 (kv : Value) (a : Ag) : Array Value := #[kv, .int .u64 a.c, .bool a.o, .int .i64 (hi a.s), .int .u64 (lo a.s), .int .i64 a.mn, .int .i64 a.mx]
theorem SL.frozen {w : World} {base L0 : Nat} {N : List Nd} {sz : Int} {fr : Bool} (h : SL w base L0 N sz fr) : w.cell? ⟨L0, 17, none⟩ = some (.bool fr) ∧ w.cell? ⟨L0, 15, none⟩ = some (.int .i64 (N.length : Int)) ∧ w.cell? ⟨L0, 16, none⟩ = some (.int .i64 sz) ∧ L0 < w.heap.size := by
  have := h.1.hd
  refine ⟨by simp [World.cell?, this, hdc], by simp [World.cell?, this, hdc], by simp [World.cell?, this, hdc], (Array.getElem?_eq_some_iff.1 this).1⟩
/-- All cells but those of lists and their entries stand. -/
def Kt (A B : World) : Prop := ∀ (c : Nat) (cs : Array Value) (T : TypeId) (fr : Nat × Nat), T ≠ 55 → T ≠ 57 → A.heap[c]? = some (.cells cs T fr) → B.heap[c]? = some (.cells cs T fr)
theorem Kt.of_below {A B : World} (h : Below A.heap.size A B) : Kt A B := fun c _ _ _ _ _ hc => (h.block c (Array.getElem?_eq_some_iff.1 hc).1).trans hc
theorem Kt.trans {A B C : World} (h : Kt A B) (k : Kt B C) : Kt A C := fun c cs T fr h1 h2 hc => k c cs T fr h1 h2 (h c cs T fr h1 h2 hc)
theorem Kt.set {A B : World} (h : Kt A B) {c0 : Nat} {cs0 : Array Value} {T0 : TypeId} {fr0 : Nat × Nat} (h0 : B.heap[c0]? = some (.cells cs0 T0 fr0)) (hT : T0 = 55 ∨ T0 = 57) (i : Nat) (v : Value) : Kt A (B.setCell ⟨c0, i, none⟩ v) := by
  intro c cs T fr h1 h2 hc
  have hB := h c cs T fr h1 h2 hc
  rw [Below.heap_setCell _ _ _ _ (fun e => ?_)]
  · exact hB
  · have e' : c = c0 := e
    rw [e', h0] at hB
    simp at hB
    rcases hT with hT | hT
    · exact h1 (hB.2.1.symm.trans hT)
    · exact h2 (hB.2.1.symm.trans hT)
/-- What is known of an entry is set. -/
def setA (w : World) (b : Nat) (a : Ag) : World := (((((w.setCell ⟨b, 1, none⟩ (.int .u64 a.c)).setCell ⟨b, 2, none⟩ (.bool a.o)).setCell ⟨b, 3, none⟩ (.int .i64 (hi a.s))).setCell ⟨b, 4, none⟩ (.int .u64 (lo a.s))).setCell ⟨b, 5, none⟩ (.int .i64 a.mn)).setCell ⟨b, 6, none⟩ (.int .i64 a.mx)
theorem setA_same {w : World} {b : Nat} {kv : Value} {a0 : Ag} {f : Nat → Value} {T : TypeId} (a : Ag) (h : w.heap[b]? = some (.cells (ndc kv a0 f) T)) : (setA w b a).heap[b]? = some (.cells (ndc kv a f) T) := by
  have h1 := Go.heap_setCell_same w b 1 _ _ (.int .u64 a.c) h
  have h2 := Go.heap_setCell_same _ b 2 _ _ (.bool a.o) h1
  have h3 := Go.heap_setCell_same _ b 3 _ _ (.int .i64 (hi a.s)) h2
  have h4 := Go.heap_setCell_same _ b 4 _ _ (.int .u64 (lo a.s)) h3
  have h5 := Go.heap_setCell_same _ b 5 _ _ (.int .i64 a.mn) h4
  have h6 := Go.heap_setCell_same _ b 6 _ _ (.int .i64 a.mx) h5
  unfold setA
  simpa [ndc] using h6
theorem setA_other {w : World} {b c : Nat} (a : Ag) (h : c ≠ b) : (setA w b a).heap[c]? = w.heap[c]? := by
  unfold setA
  rw [Below.heap_setCell _ _ _ _ h, Below.heap_setCell _ _ _ _ h, Below.heap_setCell _ _ _ _ h, Below.heap_setCell _ _ _ _ h, Below.heap_setCell _ _ _ _ h, Below.heap_setCell _ _ _ _ h]
theorem setA_below {w0 w : World} {n b : Nat} (a : Ag) (h : Below n w0 w) (hb : n ≤ b) : Below n w0 (setA w b a) := (((((h.setCell hb _).setCell hb _).setCell hb _).setCell hb _).setCell hb _).setCell hb _
theorem setA_kt {w0 w : World} {b : Nat} {kv : Value} {a0 : Ag} {f : Nat → Value} (a : Ag) (h : Kt w0 w) (hb : w.heap[b]? = some (.cells (ndc kv a0 f) 55)) : Kt w0 (setA w b a) := by
  intro c cs T fr h1 h2 hc
  have hB := h c cs T fr h1 h2 hc
  rw [setA_other a (fun e => ?_)]
  · exact hB
  · rw [e, hb] at hB
    simp at hB
    exact h1 hB.2.1.symm
theorem SLm.setAgg {w : World} {base L0 : Nat} {N : List Nd} {F : Nat → Nat → Value} {n sz : Int} {fr : Bool} (h : SLm w base L0 N F n sz fr) {i : Nat} (hil : i < N.length) (a : Ag) :
    SLm (setA w N[i].b a) base L0 (N.set i { N[i] with a := a }) F n sz fr := by
  have hN : ∀ j (hj : j < (N.set i { N[i] with a := a }).length), (N.set i { N[i] with a := a })[j].b = (N[j]'(by simpa using hj)).b ∧ (N.set i { N[i] with a := a })[j].kv = (N[j]'(by simpa using hj)).kv ∧ (N.set i { N[i] with a := a })[j].k = (N[j]'(by simpa using hj)).k := by
    intro j hj
    rw [List.getElem_set]
    split
    · rename_i e; subst e; exact ⟨rfl, rfl, rfl⟩
    · exact ⟨rfl, rfl, rfl⟩
  have hmap : (N.set i { N[i] with a := a }).map Nd.b = N.map Nd.b := by
    apply List.ext_getElem
    · simp
    · intro j h1 h2; rw [List.getElem_map, List.getElem_map]; exact (hN j (by simpa using h1)).1
  refine ⟨?_, fun j hj => ?_, fun j hj => ?_, h.b0, fun x hx => ?_, by rw [hmap]; exact h.ne⟩
  · have hne : L0 ≠ N[i].b := by
      have := fun e => blk_inj h (p := 0) (q := i + 1) (by omega) (by omega) e
      rw [blk_at hil] at this
      exact fun e => by have := this e; omega
    rw [setA_other a hne]; exact h.hd
  · have hj' : j < N.length := by simpa using hj
    obtain ⟨e1, e2, e3⟩ := hN j hj
    by_cases e : i = j
    · subst e
      rw [e1, e2, show (N.set i { N[i] with a := a })[i].a = a from by rw [List.getElem_set_self]]
      exact setA_same a (h.nd i hil)
    · have hne : N[j].b ≠ N[i].b := by
        have := fun e' => blk_inj h (p := j + 1) (q := i + 1) (by omega) (by omega) e'
        rw [blk_at hj', blk_at hil] at this
        exact fun e' => e (by have := this e'; omega)
      rw [e1, e2, setA_other a hne, h.nd j hj', List.getElem_set_ne e]
  · have hj' : j < N.length := by simpa using hj
    obtain ⟨e1, e2, e3⟩ := hN j hj
    rw [e2, e3]
    have hk := h.ky j hj'
    obtain ⟨q1, q2⟩ := hk
    refine ⟨q1, ?_⟩
    rcases q2 with q2 | ⟨g, cap, cur, hv, hg, hw, r⟩
    · exact .inl q2
    · refine .inr ⟨g, cap, cur, hv, hg, ?_, r⟩
      rw [setA_other a (fun e => ?_)]
      · exact hw
      · rw [e, h.nd i hil] at hw
        simp at hw
  · obtain ⟨j, hj, rfl⟩ := List.mem_iff_getElem.1 hx
    rw [(hN j hj).1]; exact h.bs _ (List.getElem_mem _)
set_option maxRecDepth 100000 in
set_option maxHeartbeats 1000000 in
theorem put_no (L0 : Nat) (N : List Nd) (sz : Int) (fr : Bool) (kv : Value) (k : Ks) (a : Ag) (h : Int) (w : World) (base : Nat) (hS : SL w base L0 N sz fr) (hR : Reads w kv k) (hno : mpF fr h k.length a ≠ 0) :
    Calls Try.prog 8 #[.pointer (some ⟨L0, 0, none⟩), env kv a, .int .i64 h] w fun e w' => e = .returned (.int .i64 (mpF fr h k.length a)) ∧ Below w.heap.size w w' := by
  obtain ⟨cf, _, _, hL⟩ := hS.frozen
  have HR : Hid (Reads w kv k) := hR
  obtain ⟨ak, ck, rfl, _⟩ := hR.form
  have HB0 : Hid (Below w.heap.size w (w.alloc (.cells #[.slice ak k.length ck, .int .u64 a.c, .bool a.o, .int .i64 (hi a.s), .int .u64 (lo a.s), .int .i64 a.mn, .int .i64 a.mx] 36))) := (Below.refl _ _).alloc (Nat.le_refl _) _
  have HM : Hid _ := mayPut_any L0 fr _ k a h _ (by simp; omega) ((HB0.out.cell (p := ⟨L0, 17, none⟩) hL).trans cf) (HR.out.below HB0.out)
  unfold env at HM ⊢
  obtain ⟨q, Hq⟩ := hid_ex (mpF fr h k.length a)
  rw [← Hq.out] at HM hno ⊢
  clear hS hR cf
  go_enter Try.func8, Try.ntmps8
  go_wp2_with fail
  refine Calls.mono HM.out ?_
  rintro e w1 ⟨rfl, hb1⟩
  have HB1 : Hid (Below w.heap.size w w1) := HB0.out.trans (hb1.mono HB0.out.size)
  clear hb1
  go_wp2_with fail
  go_ret
  exact ⟨rfl, HB1.out⟩
set_option maxRecDepth 100000 in
set_option maxHeartbeats 1000000 in
theorem put_merge (L0 : Nat) (N : List Nd) (sz : Int) (fr : Bool) (kv : Value) (k : Ks) (a : Ag) (h : Int) (w : World) (base : Nat) (hbase : base ≤ w.heap.size) (hS : SL w base L0 N sz fr) (hR : Reads w kv k) (hok : mpF fr h k.length a = 0) (ha : 0 ≤ a.c ∧ a.c < 18446744073709551616) (i : Nat) (hil : i < N.length) (hip : i = plK (N.map Nd.k) k) (hik : N[i].k = k) :
    Calls Try.prog 8 #[.pointer (some ⟨L0, 0, none⟩), env kv a, .int .i64 h] w fun e w' => e = .returned (.int .i64 0) ∧ SLm w' base L0 (N.set i { N[i] with a := mrg N[i].a a }) (nxF N) N.length sz fr ∧ Below base w w' ∧ Kt w w' := by
  obtain ⟨cf, _, _, hL⟩ := hS.frozen
  have HS : Hid (SL w base L0 N sz fr) := hS
  have HR : Hid (Reads w kv k) := hR
  obtain ⟨ak, ck, rfl, _⟩ := hR.form
  have HB0 : Hid (Below w.heap.size w (w.alloc (.cells #[.slice ak k.length ck, .int .u64 a.c, .bool a.o, .int .i64 (hi a.s), .int .u64 (lo a.s), .int .i64 a.mn, .int .i64 a.mx] 36))) := (Below.refl _ _).alloc (Nat.le_refl _) _
  have HM : Hid _ := mayPut_any L0 fr _ k a h _ (by simp; omega) ((HB0.out.cell (p := ⟨L0, 17, none⟩) hL).trans cf) (HR.out.below HB0.out)
  unfold env at HM ⊢
  rw [hok] at HM
  obtain ⟨w0, HW0⟩ := hid_ex (w.alloc (.cells #[.slice ak k.length ck, .int .u64 a.c, .bool a.o, .int .i64 (hi a.s), .int .u64 (lo a.s), .int .i64 a.mn, .int .i64 a.mx] 36))
  have HX0 : Hid (w0.heap[w.heap.size]? = some (.cells #[.slice ak k.length ck, .int .u64 a.c, .bool a.o, .int .i64 (hi a.s), .int .u64 (lo a.s), .int .i64 a.mn, .int .i64 a.mx] 36)) := by rw [HW0.out]; exact World.alloc_heap_new _ _
  have hs0 : w0.heap.size = w.heap.size + 1 := by rw [HW0.out]; simp
  rw [← HW0.out] at HB0 HM
  have HIP : Hid (i = plK (N.map Nd.k) k) := hip
  clear hS hR cf hip
  go_enter Try.func8, Try.ntmps8
  go_wp2_with fail
  rw [← HW0.out]
  refine Calls.mono HM.out ?_
  rintro e w1 ⟨rfl, hb1⟩
  have HB1 : Hid (Below w.heap.size w w1) := HB0.out.trans (hb1.mono HB0.out.size)
  have HX1 : Hid (w1.heap[w.heap.size]? = some (.cells #[.slice ak k.length ck, .int .u64 a.c, .bool a.o, .int .i64 (hi a.s), .int .u64 (lo a.s), .int .i64 a.mn, .int .i64 a.mx] 36)) := (hb1.block _ (by omega)).trans HX0.out
  have hs1 : w.heap.size + 1 ≤ w1.heap.size := by have := hb1.size; omega
  obtain ⟨cx0, _⟩ := cell_row HX1.out 0 (by simp)
  simp only [List.getElem_toArray, List.getElem_cons_zero] at cx0
  clear hb1 HM HX0 HB0
  go_wp2_with fail
  refine (before_any L0 N sz fr _ k w1 base (HS.out.below HB1.out) (HR.out.below HB1.out)).mono ?_
  rintro e w2 ⟨rfl, hb2⟩
  rw [← HIP.out]
  have HB2 : Hid (Below w.heap.size w w2) := HB1.out.trans (hb2.mono HB1.out.size)
  have HX2 : Hid (w2.heap[w.heap.size]? = some (.cells #[.slice ak k.length ck, .int .u64 a.c, .bool a.o, .int .i64 (hi a.s), .int .u64 (lo a.s), .int .i64 a.mn, .int .i64 a.mx] 36)) := (hb2.block _ (by omega)).trans HX1.out
  have hs2 : w.heap.size + 1 ≤ w2.heap.size := by have := hb2.size; omega
  obtain ⟨g, Hg⟩ := hid_ex (fun j => blk L0 N (bp N j i))
  have HEG : Hid ((fun j => (.pointer (some ⟨blk L0 N (bp N j i), 0, none⟩) : Value)) = fun j => .pointer (some ⟨g j, 0, none⟩)) := by rw [Hg.out]; rfl
  have HG0 : Hid (g 0 = blk L0 N i) := by rw [Hg.out]; unfold Hid; dsimp only; rw [bp_zero HS.out.2.ht (by omega)]
  rw [HEG.out]
  unfold ar8
  dsimp only
  obtain ⟨cN, _, hbl⟩ := HS.out.1.blk_hd (p := i) (by omega) (k := 0) (by decide)
  have cN2 := (HB2.out.cell (p := ⟨blk L0 N i, 7 + 0, none⟩) hbl).trans cN
  rw [← HG0.out] at cN2 hbl
  have hbl2 : g 0 < w2.heap.size := by have := HB2.out.size; omega
  obtain ⟨cx0, _⟩ := cell_row HX2.out 0 (by simp)
  simp only [List.getElem_toArray, List.getElem_cons_zero] at cx0
  obtain ⟨nd, Hnd⟩ := hid_ex N[i]
  have HP : Hid (nxF N i 0 = .pointer (some ⟨nd.b, 0, none⟩)) := by unfold Hid; rw [nxF_zero HS.out.2.ht (by omega), dif_pos hil, Hnd.out]
  have HN : Hid (w.heap[nd.b]? = some (.cells (ndc nd.kv nd.a (nxF N (i + 1))) 55)) := by have := HS.out.1.nd i hil; rw [← Hnd.out] at this; exact this
  have HKY : Hid (Reads w nd.kv nd.k) := by have := (HS.out.1.ky i hil).reads; rw [← Hnd.out] at this; exact this
  have HAG : Hid (0 ≤ nd.a.c ∧ nd.a.c < 18446744073709551616) := by have := HS.out.2.ag _ (List.getElem_mem hil); rw [← Hnd.out] at this; exact ⟨by omega, this.2.1⟩
  have HIK : Hid (nd.k = k) := by rw [Hnd.out]; exact hik
  rw [HP.out] at cN2
  have hbn := (Array.getElem?_eq_some_iff.1 HN.out).1
  have hsx : w.heap.size < w2.heap.size := by omega
  obtain ⟨w3, HW3⟩ := hid_ex (w2.alloc (.cells #[.pointer (some ⟨g 0, 0, none⟩), .pointer (some ⟨g 1, 0, none⟩), .pointer (some ⟨g 2, 0, none⟩), .pointer (some ⟨g 3, 0, none⟩), .pointer (some ⟨g 4, 0, none⟩), .pointer (some ⟨g 5, 0, none⟩), .pointer (some ⟨g 6, 0, none⟩), .pointer (some ⟨g 7, 0, none⟩)] 52))
  have hal3 : Below w2.heap.size w2 w3 := by rw [HW3.out]; exact (Below.refl _ _).alloc (Nat.le_refl _) _
  have HB3 : Hid (Below w.heap.size w w3) := HB2.out.trans (hal3.mono HB2.out.size)
  have HX3 : Hid (w3.heap[w.heap.size]? = some (.cells #[.slice ak k.length ck, .int .u64 a.c, .bool a.o, .int .i64 (hi a.s), .int .u64 (lo a.s), .int .i64 a.mn, .int .i64 a.mx] 36)) := (hal3.block _ hsx).trans HX2.out
  have HN3 : Hid (w3.heap[nd.b]? = some (.cells (ndc nd.kv nd.a (nxF N (i + 1))) 55)) := (HB3.out.block _ hbn).trans HN.out
  have HCK : Hid (w3.cell? ⟨nd.b, 0, none⟩ = some nd.kv) := by unfold Hid; simp [World.cell?, show w3.heap[nd.b]? = _ from HN3.out, ndc]
  clear hb2 cN HX1 hik hal3
  go_wp2_with fail
  rw [← HW3.out]
  clear cN2 cx0 HX2 HB2 HW3
  refine (has_some nd.b nd.kv nd.k _ k _ HCK.out (HKY.out.below HB3.out) (HR.out.below HB3.out)).mono ?_
  rintro e w4 ⟨rfl, hw4⟩
  subst w4
  rw [decide_eq_true HIK.out]
  obtain ⟨a1, p1⟩ := cell_row HN3.out 1 (by simp [ndc])
  obtain ⟨a2, p2⟩ := cell_row HN3.out 2 (by simp [ndc])
  obtain ⟨a3, p3⟩ := cell_row HN3.out 3 (by simp [ndc])
  obtain ⟨a4, p4⟩ := cell_row HN3.out 4 (by simp [ndc])
  obtain ⟨a5, p5⟩ := cell_row HN3.out 5 (by simp [ndc])
  obtain ⟨a6, p6⟩ := cell_row HN3.out 6 (by simp [ndc])
  simp only [ndc, List.getElem_toArray, List.getElem_cons_succ, List.getElem_cons_zero] at a1 a2 a3 a4 a5 a6
  obtain ⟨b1, _⟩ := cell_row HX3.out 1 (by simp)
  obtain ⟨b2, _⟩ := cell_row HX3.out 2 (by simp)
  obtain ⟨b3, _⟩ := cell_row HX3.out 3 (by simp)
  obtain ⟨b4, _⟩ := cell_row HX3.out 4 (by simp)
  obtain ⟨b5, _⟩ := cell_row HX3.out 5 (by simp)
  obtain ⟨b6, _⟩ := cell_row HX3.out 6 (by simp)
  simp only [List.getElem_toArray, List.getElem_cons_succ, List.getElem_cons_zero] at b1 b2 b3 b4 b5 b6
  go_wp2_with fail
  refine wp_region_noPanic ?_
  refine wp_region_held_drew (S := (fun w' => Below base w w')) (by kernel_rfl) ?_ (fun hHeld => ?_)
  · exact (HB3.out.mono hbase).drew
  refine wpAnyH_take (i := 0) (v := .pointer (some ⟨nd.b, 0, none⟩)) rfl (by kernel_rfl) (by kernel_rfl) (by kernel_rfl) (fun _ _ _ h => h) (Or.inl ⟨by rfl, ?_⟩) (by assumption) ?_
  · (intro w1 hSw; (try dsimp only at hSw); go_simp)
  simp only [List.getElem_toArray, List.getElem_cons_zero, Act.put, List.setIfInBounds_toArray, List.set_cons_zero, List.set_cons_succ]
  refine wpAnyH_take (i := 1) (v := .pointer (some ⟨nd.b, 0, none⟩)) rfl (by kernel_rfl) (by kernel_rfl) (by kernel_rfl) (fun _ _ _ h => h) (Or.inl ⟨by rfl, ?_⟩) (by assumption) ?_
  · (intro w1 hSw; (try dsimp only at hSw); go_simp)
  simp only [List.getElem_toArray, List.getElem_cons_succ, List.getElem_cons_zero, Act.put, List.setIfInBounds_toArray, List.set_cons_zero, List.set_cons_succ]
  refine wpAnyH_take (i := 2) (v := .pointer (some ⟨nd.b, 0, none⟩)) rfl (by kernel_rfl) (by kernel_rfl) (by kernel_rfl) (fun _ _ _ h => h) (Or.inl ⟨by rfl, ?_⟩) (by assumption) ?_
  · (intro w1 hSw; (try dsimp only at hSw); go_simp)
  simp only [List.getElem_toArray, List.getElem_cons_succ, List.getElem_cons_zero, Act.put, List.setIfInBounds_toArray, List.set_cons_zero, List.set_cons_succ]
  refine wpAnyH_take (i := 3) (v := .pointer (some ⟨nd.b, 0, none⟩)) rfl (by kernel_rfl) (by kernel_rfl) (by kernel_rfl) (fun _ _ _ h => h) (Or.inl ⟨by rfl, ?_⟩) (by assumption) ?_
  · (intro w1 hSw; (try dsimp only at hSw); go_simp)
  simp only [List.getElem_toArray, List.getElem_cons_succ, List.getElem_cons_zero, Act.put, List.setIfInBounds_toArray, List.set_cons_zero, List.set_cons_succ]
  refine wpAnyH_take (i := 4) (v := .pointer (some ⟨nd.b, 1, none⟩)) rfl (by kernel_rfl) (by kernel_rfl) (by kernel_rfl) (fun _ _ _ h => h) (Or.inl ⟨by rfl, ?_⟩) (by assumption) ?_
  · (intro w1 hSw; (try dsimp only at hSw); go_simp)
  simp only [List.getElem_toArray, List.getElem_cons_succ, List.getElem_cons_zero, Act.put, List.setIfInBounds_toArray, List.set_cons_zero, List.set_cons_succ]
  refine wpAnyH_take (i := 6) (v := .pointer (some ⟨w.heap.size, 1, none⟩)) rfl (by kernel_rfl) (by kernel_rfl) (by kernel_rfl) (fun _ _ _ h => h) (Or.inl ⟨by rfl, ?_⟩) (by assumption) ?_
  · (intro w1 hSw; (try dsimp only at hSw); go_simp)
  simp only [List.getElem_toArray, List.getElem_cons_succ, List.getElem_cons_zero, Act.put, List.setIfInBounds_toArray, List.set_cons_zero, List.set_cons_succ]
  refine wpAnyH_ready (rs := [5, 7]) (by kernel_rfl) (by simp) ?_
  refine AllReadyH.cons (o := _) rfl (fun K hK => ?_) (AllReadyH.cons (o := _) rfl (fun K hK => ?_) AllReadyH.nil)
  · go_simp
    refine hK.out _ _ ?_ (fun hHeld => ?_)
    · exact hHeld
    clear hK K
    refine wpAnyH_ready (rs := [7]) (by kernel_rfl) (by simp) ?_
    refine AllReadyH.cons (o := _) rfl (fun K hK => ?_) AllReadyH.nil
    go_simp
    refine hK.out _ _ ?_ (fun hHeld => ?_)
    · exact hHeld
    clear hK K
    refine wpAnyH_ready (rs := [8]) (by kernel_rfl) (by simp) ?_
    refine AllReadyH.cons (o := _) rfl (fun K hK => ?_) AllReadyH.nil
    go_simp
    refine (merge_any nd.a a HAG.out.1 HAG.out.2 ha.1 ha.2 w3.drew).mono ?_
    rintro e w5 ⟨rfl, hb5⟩
    have HB5' : Hid (Below w3.heap.size w3 w5) := (Below.refl w3.heap.size w3).drew.trans hb5
    have HB5 : Hid (Below base w w5) := (HB3.out.mono hbase).trans (HB5'.out.mono (Nat.le_trans hbase HB3.out.size))
    clear hb5
    refine hK.out _ _ ?_ (fun hHeld => ?_)
    · exact HB5.out
    clear hK K
    refine wpAnyH_take (i := 9) (v := .pointer (some ⟨nd.b, 0, none⟩)) rfl (by kernel_rfl) (by kernel_rfl) (by kernel_rfl) (fun _ _ _ h => h) (Or.inl ⟨by rfl, ?_⟩) (by assumption) ?_
    · (intro w1 hSw; (try dsimp only at hSw); go_simp)
    simp only [List.getElem_toArray, List.getElem_cons_succ, List.getElem_cons_zero, Act.put, List.setIfInBounds_toArray, List.set_cons_zero, List.set_cons_succ]
    refine wpAnyH_take (i := 10) (v := .pointer (some ⟨nd.b, 0, none⟩)) rfl (by kernel_rfl) (by kernel_rfl) (by kernel_rfl) (fun _ _ _ h => h) (Or.inl ⟨by rfl, ?_⟩) (by assumption) ?_
    · (intro w1 hSw; (try dsimp only at hSw); go_simp)
    simp only [List.getElem_toArray, List.getElem_cons_succ, List.getElem_cons_zero, Act.put, List.setIfInBounds_toArray, List.set_cons_zero, List.set_cons_succ]
    refine wpAnyH_take (i := 11) (v := .pointer (some ⟨nd.b, 1, none⟩)) rfl (by kernel_rfl) (by kernel_rfl) (by kernel_rfl) (fun _ _ _ h => h) (Or.inl ⟨by rfl, ?_⟩) (by assumption) ?_
    · (intro w1 hSw; (try dsimp only at hSw); go_simp)
    simp only [List.getElem_toArray, List.getElem_cons_succ, List.getElem_cons_zero, Act.put, List.setIfInBounds_toArray, List.set_cons_zero, List.set_cons_succ]
    have HN5 : Hid (w5.heap[nd.b]? = some (.cells (ndc nd.kv nd.a (nxF N (i + 1))) 55)) := (HB5'.out.block _ (Array.getElem?_eq_some_iff.1 HN3.out).1).trans HN3.out
    obtain ⟨m, Hm⟩ := hid_ex (mrg nd.a a)
    rw [← Hm.out]
    obtain ⟨a1, p1⟩ := cell_row HN5.out 1 (by simp [ndc])
    obtain ⟨a2, p2⟩ := cell_row HN5.out 2 (by simp [ndc])
    obtain ⟨a3, p3⟩ := cell_row HN5.out 3 (by simp [ndc])
    obtain ⟨a4, p4⟩ := cell_row HN5.out 4 (by simp [ndc])
    obtain ⟨a5, p5⟩ := cell_row HN5.out 5 (by simp [ndc])
    obtain ⟨a6, p6⟩ := cell_row HN5.out 6 (by simp [ndc])
    simp only [ndc, List.getElem_toArray, List.getElem_cons_succ, List.getElem_cons_zero] at a1 a2 a3 a4 a5 a6
    have HBE : Hid (Below base w (setA w5 nd.b m)) := setA_below m HB5.out (by rw [Hnd.out]; exact HS.out.1.bs _ (List.getElem_mem hil))
    have HSE : Hid (SLm (setA w5 nd.b m) base L0 (N.set i { N[i] with a := mrg N[i].a a }) (nxF N) N.length sz fr) := by
      have hs5 : SLm w5 base L0 N (nxF N) N.length sz fr := (HS.out.below (HB3.out.trans (HB5'.out.mono HB3.out.size))).1
      have := hs5.setAgg hil m
      rw [Hm.out, Hnd.out] at this ⊢
      exact this
    have HKT : Hid (Kt w (setA w5 nd.b m)) := setA_kt m (Kt.of_below (HB3.out.trans (HB5'.out.mono HB3.out.size))) HN5.out
    unfold setA at HBE HSE HKT
    refine wpAnyH_ready (rs := [12]) (by kernel_rfl) (by simp) ?_
    refine AllReadyH.cons (o := _) rfl (fun K hK => ?_) AllReadyH.nil
    go_simp
    refine hK.out _ _ ?_ (fun hHeld => ?_)
    · exact HBE.out
    clear hK K
    clear hHeld
    refine wpAnyH_done (by kernel_rfl) ?_ _
    refine NoPanic.normal ?_
    go_wp2_with fail
    go_ret
    exact ⟨rfl, HSE.out, HBE.out, HKT.out⟩
  · go_simp
    refine hK.out _ _ ?_ (fun hHeld => ?_)
    · exact hHeld
    clear hK K
    refine wpAnyH_ready (rs := [5]) (by kernel_rfl) (by simp) ?_
    refine AllReadyH.cons (o := _) rfl (fun K hK => ?_) AllReadyH.nil
    go_simp
    refine hK.out _ _ ?_ (fun hHeld => ?_)
    · exact hHeld
    clear hK K
    refine wpAnyH_ready (rs := [8]) (by kernel_rfl) (by simp) ?_
    refine AllReadyH.cons (o := _) rfl (fun K hK => ?_) AllReadyH.nil
    go_simp
    refine (merge_any nd.a a HAG.out.1 HAG.out.2 ha.1 ha.2 w3.drew).mono ?_
    rintro e w5 ⟨rfl, hb5⟩
    have HB5' : Hid (Below w3.heap.size w3 w5) := (Below.refl w3.heap.size w3).drew.trans hb5
    have HB5 : Hid (Below base w w5) := (HB3.out.mono hbase).trans (HB5'.out.mono (Nat.le_trans hbase HB3.out.size))
    clear hb5
    refine hK.out _ _ ?_ (fun hHeld => ?_)
    · exact HB5.out
    clear hK K
    refine wpAnyH_take (i := 9) (v := .pointer (some ⟨nd.b, 0, none⟩)) rfl (by kernel_rfl) (by kernel_rfl) (by kernel_rfl) (fun _ _ _ h => h) (Or.inl ⟨by rfl, ?_⟩) (by assumption) ?_
    · (intro w1 hSw; (try dsimp only at hSw); go_simp)
    simp only [List.getElem_toArray, List.getElem_cons_succ, List.getElem_cons_zero, Act.put, List.setIfInBounds_toArray, List.set_cons_zero, List.set_cons_succ]
    refine wpAnyH_take (i := 10) (v := .pointer (some ⟨nd.b, 0, none⟩)) rfl (by kernel_rfl) (by kernel_rfl) (by kernel_rfl) (fun _ _ _ h => h) (Or.inl ⟨by rfl, ?_⟩) (by assumption) ?_
    · (intro w1 hSw; (try dsimp only at hSw); go_simp)
    simp only [List.getElem_toArray, List.getElem_cons_succ, List.getElem_cons_zero, Act.put, List.setIfInBounds_toArray, List.set_cons_zero, List.set_cons_succ]
    refine wpAnyH_take (i := 11) (v := .pointer (some ⟨nd.b, 1, none⟩)) rfl (by kernel_rfl) (by kernel_rfl) (by kernel_rfl) (fun _ _ _ h => h) (Or.inl ⟨by rfl, ?_⟩) (by assumption) ?_
    · (intro w1 hSw; (try dsimp only at hSw); go_simp)
    simp only [List.getElem_toArray, List.getElem_cons_succ, List.getElem_cons_zero, Act.put, List.setIfInBounds_toArray, List.set_cons_zero, List.set_cons_succ]
    have HN5 : Hid (w5.heap[nd.b]? = some (.cells (ndc nd.kv nd.a (nxF N (i + 1))) 55)) := (HB5'.out.block _ (Array.getElem?_eq_some_iff.1 HN3.out).1).trans HN3.out
    obtain ⟨m, Hm⟩ := hid_ex (mrg nd.a a)
    rw [← Hm.out]
    obtain ⟨a1, p1⟩ := cell_row HN5.out 1 (by simp [ndc])
    obtain ⟨a2, p2⟩ := cell_row HN5.out 2 (by simp [ndc])
    obtain ⟨a3, p3⟩ := cell_row HN5.out 3 (by simp [ndc])
    obtain ⟨a4, p4⟩ := cell_row HN5.out 4 (by simp [ndc])
    obtain ⟨a5, p5⟩ := cell_row HN5.out 5 (by simp [ndc])
    obtain ⟨a6, p6⟩ := cell_row HN5.out 6 (by simp [ndc])
    simp only [ndc, List.getElem_toArray, List.getElem_cons_succ, List.getElem_cons_zero] at a1 a2 a3 a4 a5 a6
    have HBE : Hid (Below base w (setA w5 nd.b m)) := setA_below m HB5.out (by rw [Hnd.out]; exact HS.out.1.bs _ (List.getElem_mem hil))
    have HSE : Hid (SLm (setA w5 nd.b m) base L0 (N.set i { N[i] with a := mrg N[i].a a }) (nxF N) N.length sz fr) := by
      have hs5 : SLm w5 base L0 N (nxF N) N.length sz fr := (HS.out.below (HB3.out.trans (HB5'.out.mono HB3.out.size))).1
      have := hs5.setAgg hil m
      rw [Hm.out, Hnd.out] at this ⊢
      exact this
    have HKT : Hid (Kt w (setA w5 nd.b m)) := setA_kt m (Kt.of_below (HB3.out.trans (HB5'.out.mono HB3.out.size))) HN5.out
    unfold setA at HBE HSE HKT
    refine wpAnyH_ready (rs := [12]) (by kernel_rfl) (by simp) ?_
    refine AllReadyH.cons (o := _) rfl (fun K hK => ?_) AllReadyH.nil
    go_simp
    refine hK.out _ _ ?_ (fun hHeld => ?_)
    · exact HBE.out
    clear hK K
    clear hHeld
    refine wpAnyH_done (by kernel_rfl) ?_ _
    refine NoPanic.normal ?_
    go_wp2_with fail
    go_ret
    exact ⟨rfl, HSE.out, HBE.out, HKT.out⟩
end Go.Proofs.Ytbeemkcdpmbhmaa
