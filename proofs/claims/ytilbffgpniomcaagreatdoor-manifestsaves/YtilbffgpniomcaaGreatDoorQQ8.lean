/- MFe, joined. -/
import Derived.Test.YtilbffgpniomcaaGreatDoorQQ5
import Derived.Test.YtilbffgpniomcaaGreatDoorQQ7
/- manifest: Read. -/
namespace Go.Proofs.YtilbffgpniomcaaGreatDoor
open Go.RowKit

theorem run_storeVar_one (w : World) (b o : Nat) (ty : TypeId) (z : Value) (hz : z.cells = #[z]) (h1 : z.oneCell' = true) (ht : w.there b o 1) (hi : (Tryz.prog.info? ty).map (·.size) = some 1) :
    (storeVar ty ⟨b, o, none⟩ z).run Tryz.prog w = .ok () (w.setCell ⟨b, o, none⟩ z) := by
  have := run_storeCells_cells (P := Tryz.prog) b o [z] 0 w (fun j hj => by simpa using (ht j (by simpa using hj)).1) (fun j hj => by simpa using (ht j (by simpa using hj)).2) (fun v hv => by simp at hv; subst hv; exact h1)
  cases hq : Tryz.prog.info? ty with
  | none => simp [hq] at hi
  | some i =>
    have hs : i.size = 1 := by simpa [hq] using hi
    simp only [Nat.add_zero] at this
    simp [storeVar, sizeOf, typeInfo, hq, hz, hs, this]
    rfl
theorem wpList_storeV {ops : Array Oper} {rest : List Oper} {op : Oper} {a : Act} {w : World} {Q : Exit → Act → World → Prop} (hgd : op.guard = none) (ty : TypeId) (x y : Operand) (ho : op.op = .store ty x y) (g off : Nat) (z : Value) (hz : z.cells = #[z]) (h1 : z.oneCell' = true) (hx : a.eval x = .pointer (some ⟨g, off, none⟩)) (hy : a.eval y = z)
    (cur : Array Value) (T : TypeId) (hg : w.heap[g]? = some (.cells cur T)) (hl : off + 1 ≤ cur.size) (hi : (Tryz.prog.info? ty).map (·.size) = some 1)
    (h : wpList Tryz.prog ops Q rest (a.put op.dst undef) (w.setCell ⟨g, off, none⟩ z)) : wpList Tryz.prog ops Q (op :: rest) a w :=
  wpList_plain hgd fun _ hK => by
    unfold Oper.wp execOp
    simp only [ho, hx, hy, Instr.storeAt, Instr.sureAddr, Sem.run_bind, Sem.run_pure, Result.andThen_ok, run_storeVar_one w g off ty z hz h1 (there_of hg hl) hi]
    exact hK _ _ h
theorem results_c13 {fn : Func} {p u : Tmp} {ty : TypeId} (h : fn.results = #[.cell p ty, .tmp u]) (tmps : Array Value) (w : World) (g : Nat) (cs : Array Value)
    (hp : tmps.getD p undef = .pointer (some ⟨g, 0, none⟩)) (hl : (loadVar ty ⟨g, 0, none⟩).run Tryz.prog w = .ok (.agg cs) w) :
    (results fn tmps).run Tryz.prog w = .ok (.tuple #[.agg cs, tmps.getD u undef]) w := by
  have hp' : tmps[p]?.getD undef = .pointer (some ⟨g, 0, none⟩) := by simpa using hp
  simp [results, h, hp', asAddr, hl]
theorem stW_all {w W : World} {g : Nat} {b0 : Array Value} {T : TypeId} {vs : List Value} (h : StW w W g 0 b0 T vs) (hb : b0.size = vs.length) : W.heap[g]? = some (.cells vs.toArray T) := by
  obtain ⟨cur, h1, h2, _, h4⟩ := h.c
  have e : cur = vs.toArray := by
    apply Array.ext (by simp; omega)
    intro i hi hj
    have := h4 i (by simpa using hj)
    rw [Nat.zero_add, Array.getElem?_eq_getElem hi] at this
    simpa using this
  rw [e] at h1
  exact h1
theorem gown_jr {w : World} {T : TypeId} {v : Value} {l : List Int} (h : GOwn w T 1 v l.length (l.map ji)) : JR w v l := by
  have hc := @GOwn.cells _ _ _ _ _ _ h
  rcases h.2 with ⟨rfl, h0⟩ | ⟨g, cap, cur, rfl, h3, h4, h5, h6, h7⟩
  · exact ⟨none, 0, by rw [h0], by rw [h0]; exact Nat.zero_le _, fun j hj => by omega⟩
  · refine ⟨_, cap, rfl, Nat.le_trans h4 h5, fun j hj => ⟨g, 0, rfl, (Array.getElem?_eq_some_iff.1 h3).1, ?_⟩⟩
    have := hc (g := g) rfl j (ji l[j]) (by simp [hj])
    have ea : (⟨g, 0, none⟩ : Addr).add j = ⟨g, 0 + j, none⟩ := by simp [Addr.add]; omega
    rw [ea] at this
    exact this
theorem fl3R : ∀ (L : List Ru) (j i : Nat) (hj : j < L.length), i < 3 → (L.flatMap r3L)[j * 3 + i]? = (r3L L[j])[i]?
  | [], j, i, hj, _ => by simp at hj
  | a :: L, 0, i, _, hi => by rw [List.flatMap_cons, Nat.zero_mul, Nat.zero_add, List.getElem?_append_left (by rw [r3L_len]; exact hi)]; rfl
  | a :: L, j + 1, i, hj, hi => by
    rw [List.flatMap_cons, List.getElem?_append_right (by rw [r3L_len]; omega), r3L_len, show (j + 1) * 3 + i - 3 = j * 3 + i by omega, fl3R L j i (by simpa using hj) hi]; rfl
theorem gown_rur {w : World} {T : TypeId} {v : Value} {L : List Ru} (h : GOwn w T 3 v L.length (L.flatMap r3L)) : RuR w v L := by
  have hc := @GOwn.cells _ _ _ _ _ _ h
  rcases h.2 with ⟨rfl, h0⟩ | ⟨g, cap, cur, rfl, h3, h4, h5, h6, h7⟩
  · exact ⟨none, 0, by rw [h0], by rw [h0]; exact Nat.zero_le _, fun j hj => by omega⟩
  · have ea : ∀ k, (⟨g, 0, none⟩ : Addr).add k = ⟨g, 0 + k, none⟩ := fun k => by simp [Addr.add]; omega
    refine ⟨_, cap, rfl, Nat.le_trans h4 h5, fun j hj => ⟨g, 0, rfl, (Array.getElem?_eq_some_iff.1 h3).1, ?_, ?_, ?_⟩⟩
    · have := hc (g := g) rfl (j * 3) (.int .i64 L[j].f) ((fl3R L j 0 hj (by decide)).trans rfl)
      rw [ea] at this; exact this
    · have := hc (g := g) rfl (j * 3 + 1) (.int .i64 L[j].l) ((fl3R L j 1 hj (by decide)).trans rfl)
      rw [ea] at this; exact this
    · have := hc (g := g) rfl (j * 3 + 2) (.int .i64 L[j].c) ((fl3R L j 2 hj (by decide)).trans rfl)
      rw [ea] at this; exact this
def edZ : Ed := ⟨[], [], 0, 0, 0⟩
def RdP (w w' : World) (e : Ending) (b : List UInt8) : Prop := ∃ dv av, e = .returned (.tuple #[.agg #[dv, av, .int .i64 ((edR b).getD edZ).lo, .int .i64 ((edR b).getD edZ).ne, .int .i64 ((edR b).getD edZ).ma], .int .i64 (edE (edR b))]) ∧ EdR w' dv av ((edR b).getD edZ) ∧ Below w.heap.size w w'
/-- A slice's capacity is one. -/
def CapU (v : Value) : Prop := (∀ a n cap, v = .slice a n cap → n ≤ cap ∧ cap ≤ maxLen) ∧ ∀ n cap, v = .slice none n cap → cap = 0
theorem capU_nil : CapU (.slice none 0 0) := ⟨fun a n c e => by simp only [Value.slice.injEq] at e; unfold maxLen; omega, fun n c e => by simp only [Value.slice.injEq, true_and] at e; omega⟩
theorem capU_gown {w : World} {T : TypeId} {s : Nat} {v : Value} {n : Nat} {xs : List Value} (h : GOwn w T s v n xs) : CapU v := ⟨fun a n cap e => by
  obtain ⟨a', c', e', h1, h2, _⟩ := GOwn.form h
  rw [e'] at e
  simp only [Value.slice.injEq] at e
  omega, fun n cap e => by
  obtain ⟨a', c', e', _, _, _, h3⟩ := GOwn.form h
  rw [e'] at e
  simp only [Value.slice.injEq] at e
  have := h3 e.1
  omega⟩
def RdC (w w' : World) (e : Ending) (b : List UInt8) : Prop := ∃ dv av, e = .returned (.tuple #[.agg #[dv, av, .int .i64 ((edR b).getD edZ).lo, .int .i64 ((edR b).getD edZ).ne, .int .i64 ((edR b).getD edZ).ma], .int .i64 (edE (edR b))]) ∧ EdR w' dv av ((edR b).getD edZ) ∧ Below w.heap.size w w' ∧ CapU av
theorem frzOf {w : World} {b : Nat} {cs : Array Value} {T : TypeId} (h : w.heap[b]? = some (.cells cs T)) (i : Nat) : w.frozen? ⟨b, i, none⟩ = false := by simp [World.frozen?, h]
/-- The world in which Read begins to read. -/
theorem rd_start {w : World} {v : Value} {b : List UInt8} (h : Reads w v b) (T : TypeId) :
    RdS w ((((((w.alloc (.cells #[.slice none 0 0, .slice none 0 0, .int .i64 0, .int .i64 0, .int .i64 0] 52)).alloc (.cells #[v] 22)).alloc (.cells #[.bool false] 4)).alloc (.cells #[.nilFunc] T)).setCell ⟨w.heap.size + 1 + 1 + 1, 0, none⟩ (nxV (w.heap.size + 1) (w.heap.size + 2))).alloc (.cells #[.slice none 0 0, .slice none 0 0, .int .i64 0, .int .i64 0, .int .i64 0] 52)) (.slice none 0 0) (.slice none 0 0) (false, b) [] [] (.int .i64 0) (.int .i64 0) (.int .i64 0) := by
  obtain ⟨wA, hA⟩ := hid_ex (w.alloc (.cells #[.slice none 0 0, .slice none 0 0, .int .i64 0, .int .i64 0, .int .i64 0] 52))
  obtain ⟨wB, hB⟩ := hid_ex (wA.alloc (.cells #[v] 22))
  obtain ⟨wC, hC⟩ := hid_ex (wB.alloc (.cells #[.bool false] 4))
  obtain ⟨wD, hD⟩ := hid_ex (wC.alloc (.cells #[.nilFunc] T))
  obtain ⟨wE, hE⟩ := hid_ex (wD.setCell ⟨w.heap.size + 1 + 1 + 1, 0, none⟩ (nxV (w.heap.size + 1) (w.heap.size + 2)))
  rw [← hA.out, ← hB.out, ← hC.out, ← hD.out, ← hE.out]
  have sA : wA.heap.size = w.heap.size + 1 := by rw [hA.out]; simp
  have sB : wB.heap.size = w.heap.size + 2 := by rw [hB.out]; simp [sA]
  have sC : wC.heap.size = w.heap.size + 3 := by rw [hC.out]; simp [sB]
  have sD : wD.heap.size = w.heap.size + 4 := by rw [hD.out]; simp [sC]
  have sE : wE.heap.size = w.heap.size + 4 := by rw [hE.out]; simp [World.setCell, sD]
  have bA : Below w.heap.size w wA := by rw [hA.out]; exact (Below.refl _ _).alloc (Nat.le_refl _) _
  have bB : Below wA.heap.size wA wB := by rw [hB.out]; exact (Below.refl _ _).alloc (Nat.le_refl _) _
  have bC : Below wB.heap.size wB wC := by rw [hC.out]; exact (Below.refl _ _).alloc (Nat.le_refl _) _
  have bD : Below wC.heap.size wC wD := by rw [hD.out]; exact (Below.refl _ _).alloc (Nat.le_refl _) _
  have bE : Below (w.heap.size + 3) wD wE := by rw [hE.out]; exact (Below.refl _ _).setCell (by show w.heap.size + 3 ≤ w.heap.size + 1 + 1 + 1; omega) _
  have eA : wA.heap[w.heap.size]? = some (.cells #[.slice none 0 0, .slice none 0 0, .int .i64 0, .int .i64 0, .int .i64 0] 52) := by rw [hA.out]; exact heap_alloc_new _ _
  have eB : wB.heap[w.heap.size + 1]? = some (.cells #[v] 22) := by rw [hB.out, ← sA]; exact heap_alloc_new _ _
  have eC : wC.heap[w.heap.size + 2]? = some (.cells #[.bool false] 4) := by rw [hC.out, ← sB]; exact heap_alloc_new _ _
  have eD : wD.heap[w.heap.size + 3]? = some (.cells #[.nilFunc] T) := by rw [hD.out, ← sC]; exact heap_alloc_new _ _
  have eE : wE.heap[w.heap.size + 3]? = some (.cells #[nxV (w.heap.size + 1) (w.heap.size + 2)] T) := by
    rw [hE.out]
    exact (heap_setCell_same _ _ _ _ _ _ eD).trans rfl
  have bZ := (Below.refl wE.heap.size wE).alloc (Nat.le_refl _) (.cells #[.slice none 0 0, .slice none 0 0, .int .i64 0, .int .i64 0, .int .i64 0] 52)
  have eZ := heap_alloc_new wE (.cells #[.slice none 0 0, .slice none 0 0, .int .i64 0, .int .i64 0, .int .i64 0] 52)
  have k3 : ∀ k, k < w.heap.size + 3 → (wE.alloc (.cells #[.slice none 0 0, .slice none 0 0, .int .i64 0, .int .i64 0, .int .i64 0] 52)).heap[k]? = wC.heap[k]? := fun k hk => by
    rw [bZ.block k (by omega), bE.block k (by omega), bD.block k (by omega)]
  have hbl : Below w.heap.size w (wE.alloc (.cells #[.slice none 0 0, .slice none 0 0, .int .i64 0, .int .i64 0, .int .i64 0] 52)) := bA.trans ((bB.mono (by omega)).trans ((bC.mono (by omega)).trans ((bD.mono (by omega)).trans ((bE.mono (by omega)).trans (bZ.mono (by omega))))))
  refine ⟨hbl, ⟨⟨v, ?_, fun w' ho => h.below (hbl.trans (ho.below (by have := hbl.size; omega) fun k q => q))⟩, ?_, by omega, ?_, ?_⟩, ?_, ⟨T, ?_⟩, ?_, ⟨rfl, .inl ⟨rfl, rfl⟩⟩, ⟨rfl, .inl ⟨rfl, rfl⟩⟩, fun k e => ?_, fun k e => ?_⟩
  · rw [k3 _ (by omega), bC.block _ (by omega)]; exact eB
  · rw [k3 _ (by omega)]; exact eC
  · show w.heap.size ≤ w.heap.size + 1; omega
  · show w.heap.size ≤ w.heap.size + 2; omega
  · rw [k3 _ (by omega), bC.block _ (by omega), bB.block _ (by omega)]; exact eA
  · rw [bZ.block _ (by omega)]; exact eE
  · rw [← sE]; exact eZ
  · simp [Value.ownBlock] at e
  · simp [Value.ownBlock] at e
theorem stps_snoc : ∀ (k : Nat) (q : Bool × List UInt8), stps (k + 1) q = ((stps k q).1 ++ [(stp big (stps k q).2).1], (stp big (stps k q).2).2)
  | 0, q => rfl
  | k + 1, q => by
    rw [stps, stps_snoc k, stps]; rfl
theorem stp_bd (most : Nat) (q : Bool × List UInt8) : ∃ n : Nat, (stp most q).1 = (n : Int) ∧ n ≤ most := by
  unfold stp
  cases h : nxN most q.2 with
  | none => exact ⟨0, rfl, Nat.zero_le _⟩
  | some p =>
    obtain ⟨v, r⟩ := p
    obtain ⟨h1, h2, _⟩ := nx_inv h
    exact ⟨v.toNat, by simp only; omega, h2⟩
set_option maxRecDepth 100000 in
set_option maxHeartbeats 4000000 in
theorem read13c_any (bv : Value) (b : List UInt8) (w : World) (h : Reads w bv b) :
    Calls Tryz.prog 76 #[bv] w fun e w' => RdC w w' e b := by
  obtain ⟨ba, bc, rfl, hm⟩ := h.form
  have HR : Hid (Reads w (.slice ba b.length bc) b) := h
  clear h
  go_enter Tryz.func76, Tryz.ntmps76
  go_wp2_with (refine stop_store 152 _ _ rfl ?_)
  refine Stop.of ?_
  refine wpList_storeV rfl _ _ _ rfl (w.heap.size + 1 + 1 + 1) 0 (nxV (w.heap.size + 1) (w.heap.size + 2)) rfl rfl rfl rfl _ _ (by simpa using heap_alloc_new (((w.alloc (.cells #[.slice none 0 0, .slice none 0 0, .int .i64 0, .int .i64 0, .int .i64 0] 52)).alloc (.cells #[.slice ba b.length bc] 22)).alloc (.cells #[.bool false] 4)) (.cells #[.nilFunc] 152)) (by simp) (by kernel_rfl) ?_
  have hS := rd_start HR.out 152
  have hz : (((((w.alloc (.cells #[.slice none 0 0, .slice none 0 0, .int .i64 0, .int .i64 0, .int .i64 0] 52)).alloc (.cells #[.slice ba b.length bc] 22)).alloc (.cells #[.bool false] 4)).alloc (.cells #[.nilFunc] 152)).setCell ⟨w.heap.size + 1 + 1 + 1, 0, none⟩ (nxV (w.heap.size + 1) (w.heap.size + 2))).heap.size = w.heap.size + 4 := by simp [World.setCell]
  simp only [Nat.add_assoc, Nat.reduceAdd] at hS hz ⊢
  generalize ((((w.alloc (.cells #[.slice none 0 0, .slice none 0 0, .int .i64 0, .int .i64 0, .int .i64 0] 52)).alloc (.cells #[.slice ba b.length bc] 22)).alloc (.cells #[.bool false] 4)).alloc (.cells #[.nilFunc] 152)).setCell ⟨w.heap.size + 3, 0, none⟩ (nxV (w.heap.size + 1) (w.heap.size + 2)) = W0 at *
  have HS : Hid (RdS w _ _ _ _ _ _ _ _ _) := hS
  obtain ⟨T, hT⟩ := hS.f
  obtain ⟨c0, f0⟩ := cellB hT
  unfold nxV at c0
  clear hS hT f0 HR
  go_wp2_with fail
  refine (HS.out.nxt 64 (by decide)).mono ?_
  rintro e W1 ⟨rfl, hs1⟩
  obtain ⟨N1, hN1, hN64⟩ := stp_bd 64 (false, b)
  obtain ⟨Q1, HQ1⟩ := hid_ex (stp 64 (false, b)).2
  have HN1 : Hid ((stp 64 (false, b)).1 = (N1 : Int)) := hN1
  rw [← HQ1.out] at hs1
  rw [hN1]
  have HS1 : Hid (RdS w W1 _ _ Q1 _ _ _ _ _) := hs1
  clear hs1 hN1 c0 HS hz W0 T
  go_wp2_with fail
  go_loopw [14] (fun i wr => ∃ (j : Nat) (dv : Value), i = .int .i64 (j : Int) ∧ j ≤ N1 ∧ Hid (RdS w wr dv (.slice none 0 0) (stps j Q1).2 (stps j Q1).1 [] (.int .i64 0) (.int .i64 0) (.int .i64 0))) (fun i _ => N1 - (intOf i).toNat)
  case atStart => exact ⟨0, _, rfl, by omega, HS1.out⟩
  case round =>
    clear HS1 W1
    obtain ⟨j, dv, rfl, hj, HS⟩ := hrel
    by_cases hlt : j < N1
    · have hlt' : (j : Int) < (N1 : Int) := by omega
      have HSd : Hid (RdS w wr.drew dv (.slice none 0 0) (stps j Q1).2 (stps j Q1).1 [] (.int .i64 0) (.int .i64 0) (.int .i64 0)) := HS.out.below (Below.refl _ _).drew
      obtain ⟨da, dc, hdv, -⟩ := GOwn.form HS.out.d
      rw [stps_len] at hdv
      subst hdv
      have HL : Hid ((stps j Q1).1.length = j) := stps_len j Q1
      have HSn : Hid (stps (j + 1) Q1 = ((stps j Q1).1 ++ [(stp big (stps j Q1).2).1], (stp big (stps j Q1).2).2)) := stps_snoc j Q1
      obtain ⟨QA, HQA⟩ := hid_ex (stps j Q1)
      rw [← HQA.out] at HS HSd HL HSn
      obtain ⟨y, Hy⟩ := hid_ex (stp big QA.2)
      go_wp2_with fail
      refine wp_region_noPanic ?_
      refine wp_region_S 7 (fun _ => True) (fun w' => w'.cell? ⟨w.heap.size + 4, 0, none⟩ = some (.slice da j dc)) (by kernel_rfl) ?_ ?_ (fun hHeld => ?_)
      · trivial
      · exact (five HSd.out.x).1
      refine wpAnyS_take (i := 0) (v := .pointer (some ⟨w.heap.size + 4, 0, none⟩)) _ rfl (by kernel_rfl) (by kernel_rfl) (by kernel_rfl) (by kernel_rfl) (by kernel_rfl) rfl (fun _ _ _ h => h) (Or.inl ⟨by rfl, ?_⟩) hHeld (fun hHeld => ?_)
      · (intro w1 hSw; have hSw := hSw.1; (try dsimp only at hSw); go_simp)
      simp only [List.getElem_toArray, List.getElem_cons_zero, Act.put, List.setIfInBounds_toArray, List.set_cons_zero, List.set_cons_succ]
      refine wpAnyS_take (i := 1) (v := .slice da j dc) true rfl (by kernel_rfl) (by kernel_rfl) (by kernel_rfl) (by kernel_rfl) (by kernel_rfl) (by kernel_rfl) (fun _ _ _ h => h) (Or.inl ⟨by rfl, ?_⟩) hHeld (fun hHeld => ?_)
      · (intro w1 hSw; have hSw2 := hSw.2 rfl; have hSw := hSw.1; (try dsimp only at hSw hSw2); go_simp)
      simp only [List.getElem_toArray, List.getElem_cons_succ, List.getElem_cons_zero, Act.put, List.setIfInBounds_toArray, List.set_cons_zero, List.set_cons_succ]
      refine wpAnyS_take (i := 2) (v := .func (.func 98) #[] #[.pointer (some ⟨w.heap.size + 3, 0, none⟩)]) _ rfl (by kernel_rfl) (by kernel_rfl) (by kernel_rfl) (by kernel_rfl) (by kernel_rfl) rfl (fun _ _ _ h => h) (Or.inl ⟨by rfl, ?_⟩) hHeld (fun hHeld => ?_)
      · (intro w1 hSw; have hSw := hSw.1; (try dsimp only at hSw); go_simp)
      simp only [List.getElem_toArray, List.getElem_cons_succ, List.getElem_cons_zero, Act.put, List.setIfInBounds_toArray, List.set_cons_zero, List.set_cons_succ]
      refine wpAnyS_ready (i := 3) (by kernel_rfl) rfl (fun K hK => ?_)
      go_simp
      refine HSd.out.num.mono ?_
      rintro e W2 ⟨rfl, hs2⟩
      rw [← Hy.out] at hs2 ⊢
      have HS2 : Hid (RdS w W2 (.slice da j dc) (.slice none 0 0) y.2 QA.1 [] (.int .i64 0) (.int .i64 0) (.int .i64 0)) := hs2
      obtain ⟨v3, W3, hrun, hx3, hs3⟩ := hs2.drop y.1 (by rw [HL.out]; omega)
      have HX3 : Hid (W3.heap[w.heap.size + 4]? = _) := hx3
      have HS3 : Hid (RdS w (W3.setCell ⟨w.heap.size + 4, 0, none⟩ v3) v3 (.slice none 0 0) (stps (j + 1) Q1).2 (stps (j + 1) Q1).1 [] (.int .i64 0) (.int .i64 0) (.int .i64 0)) := by
        unfold Hid
        rw [HSn.out, ← Hy.out]
        exact hs3
      obtain ⟨va, vc, hv3, -⟩ := GOwn.form HS3.out.d
      subst hv3
      clear hs2 hs3 hx3 HSd HS HSn
      go_simp
      refine hK.out _ _ ⟨?_, fun _ => ?_⟩ (fun hHeld => ?_)
      · trivial
      · exact (five HS2.out.x).1
      clear hK K
      refine wpAnyS_ready (i := 4) (by kernel_rfl) rfl (fun K hK => ?_)
      go_simp
      refine hK.out _ _ ⟨?_, fun _ => ?_⟩ (fun hHeld => ?_)
      · trivial
      · exact (five (HS2.out.below ((Below.refl _ _).alloc (Nat.le_refl _) _)).x).1
      clear hK K
      refine wpAnyS_ready (i := 5) (by kernel_rfl) rfl (fun K hK => ?_)
      refine wp_app_runG (.tmp 17) (.tmp 20) 50 50 rfl rfl _ _ _ (by simp [Act.eval]) (by simp [Act.eval]) hrun ?_
      simp only [List.getElem_toArray, List.getElem_cons_succ, List.getElem_cons_zero, Act.put, List.setIfInBounds_toArray, List.set_cons_zero, List.set_cons_succ]
      refine hK.out _ _ ⟨?_, fun _ => ?_⟩ (fun hHeld => ?_)
      · trivial
      · exact (five HX3.out).1
      clear hK K
      refine wpAnyS_take (i := 6) (v := .pointer (some ⟨w.heap.size + 4, 0, none⟩)) _ rfl (by kernel_rfl) (by kernel_rfl) (by kernel_rfl) (by kernel_rfl) (by kernel_rfl) rfl (fun _ _ _ h => h) (Or.inl ⟨by rfl, ?_⟩) hHeld (fun hHeld => ?_)
      · (intro w1 hSw; have hSw := hSw.1; (try dsimp only at hSw); go_simp)
      simp only [List.getElem_toArray, List.getElem_cons_succ, List.getElem_cons_zero, Act.put, List.setIfInBounds_toArray, List.set_cons_zero, List.set_cons_succ]
      have c9 := (five HX3.out).1
      have f9 := frzOf HX3.out 0
      refine wpAnyS_ready (i := 7) (by kernel_rfl) rfl (fun K hK => ?_)
      go_simp
      refine hK.out _ _ ⟨?_, fun hno => absurd hno (by decide)⟩ (fun hHeld => ?_)
      · trivial
      clear hK K
      refine wpAnyS_done (by kernel_rfl) ?_ _
      refine NoPanic.normal ?_
      go_wp2_with fail
      go_roundw
      case rel => exact ⟨j + 1, _, by go_num, by omega, HS3⟩
      case measure => simp [intOf]; omega
    · have hlt' : ¬ (j : Int) < (N1 : Int) := by omega
      obtain rfl : j = N1 := by omega
      obtain ⟨Q2, HQ2⟩ := hid_ex (stps j Q1)
      rw [← HQ2.out] at HS
      obtain ⟨T, hT⟩ := HS.out.f
      obtain ⟨c0, f0⟩ := cellB hT
      unfold nxV at c0
      clear f0
      go_wp2_with fail
      refine (HS.out.nxt 64 (by decide)).mono ?_
      rintro e W3 ⟨rfl, hs3⟩
      obtain ⟨N2, hN2, hN264⟩ := stp_bd 64 Q2.2
      obtain ⟨Q3, HQ3⟩ := hid_ex (stp 64 Q2.2).2
      have HN2 : Hid ((stp 64 Q2.2).1 = (N2 : Int)) := hN2
      rw [← HQ3.out] at hs3
      rw [hN2]
      have HS3 : Hid (RdS w W3 dv _ Q3 _ _ _ _ _) := hs3
      clear hs3 hN2 c0 HS hT hlt hlt' T
      go_wp2_with fail
      go_loopw [26] (fun i wr => ∃ (k : Nat) (av : Value) (ad : List Ru), i = .int .i64 (k : Int) ∧ k ≤ N2 ∧ Hid (ad.length = k ∧ ad.flatMap Ru.n = (stps (3 * k) Q3).1) ∧ Hid (RdS w wr dv av (stps (3 * k) Q3).2 Q2.1 ad (.int .i64 0) (.int .i64 0) (.int .i64 0))) (fun i _ => N2 - (intOf i).toNat)
      case atStart => exact ⟨0, _, [], rfl, by omega, ⟨rfl, rfl⟩, HS3.out⟩
      case round =>
        clear HS3 W3
        obtain ⟨k, av, ad, rfl, hk, HA, HS⟩ := hrel
        by_cases hlt : k < N2
        · have hlt' : (k : Int) < (N2 : Int) := by omega
          have HSd : Hid (RdS w wr.drew dv av (stps (3 * k) Q3).2 Q2.1 ad (.int .i64 0) (.int .i64 0) (.int .i64 0)) := HS.out.below (Below.refl _ _).drew
          obtain ⟨aa, ac, hav, -⟩ := GOwn.form HS.out.a
          rw [HA.out.1] at hav
          subst hav
          obtain ⟨QA, HQA⟩ := hid_ex (stps (3 * k) Q3)
          obtain ⟨y1, Hy1⟩ := hid_ex (stp big QA.2)
          obtain ⟨y2, Hy2⟩ := hid_ex (stp big y1.2)
          obtain ⟨y3, Hy3⟩ := hid_ex (stp big y2.2)
          have HSn : Hid (stps (3 * (k + 1)) Q3 = (QA.1 ++ [y1.1, y2.1, y3.1], y3.2)) := by
            unfold Hid
            rw [show 3 * (k + 1) = 3 * k + 1 + 1 + 1 by omega, stps_snoc, stps_snoc, stps_snoc, ← HQA.out]
            simp only
            rw [← Hy1.out, ← Hy2.out, ← Hy3.out]
            simp
          rw [← HQA.out] at HS HSd HA
          go_wp2_with fail
          refine wp_region_noPanic ?_
          refine wp_region_S 12 (fun _ => True) (fun w' => w'.cell? ⟨w.heap.size + 4, 1, none⟩ = some (.slice aa k ac)) (by kernel_rfl) ?_ ?_ (fun hHeld => ?_)
          · trivial
          · exact (five HSd.out.x).2.1
          refine wpAnyS_take (i := 0) (v := .pointer (some ⟨w.heap.size + 4, 1, none⟩)) _ rfl (by kernel_rfl) (by kernel_rfl) (by kernel_rfl) (by kernel_rfl) (by kernel_rfl) rfl (fun _ _ _ h => h) (Or.inl ⟨by rfl, ?_⟩) hHeld (fun hHeld => ?_)
          · (intro w1 hSw; have hSw := hSw.1; (try dsimp only at hSw); go_simp)
          simp only [List.getElem_toArray, List.getElem_cons_zero, Act.put, List.setIfInBounds_toArray, List.set_cons_zero, List.set_cons_succ]
          refine wpAnyS_take (i := 1) (v := .slice aa k ac) true rfl (by kernel_rfl) (by kernel_rfl) (by kernel_rfl) (by kernel_rfl) (by kernel_rfl) (by kernel_rfl) (fun _ _ _ h => h) (Or.inl ⟨by rfl, ?_⟩) hHeld (fun hHeld => ?_)
          · (intro w1 hSw; have hSw2 := hSw.2 rfl; have hSw := hSw.1; (try dsimp only at hSw hSw2); go_simp)
          simp only [List.getElem_toArray, List.getElem_cons_succ, List.getElem_cons_zero, Act.put, List.setIfInBounds_toArray, List.set_cons_zero, List.set_cons_succ]
          refine wpAnyS_take (i := 2) (v := .func (.func 98) #[] #[.pointer (some ⟨w.heap.size + 3, 0, none⟩)]) _ rfl (by kernel_rfl) (by kernel_rfl) (by kernel_rfl) (by kernel_rfl) (by kernel_rfl) rfl (fun _ _ _ h => h) (Or.inl ⟨by rfl, ?_⟩) hHeld (fun hHeld => ?_)
          · (intro w1 hSw; have hSw := hSw.1; (try dsimp only at hSw); go_simp)
          simp only [List.getElem_toArray, List.getElem_cons_succ, List.getElem_cons_zero, Act.put, List.setIfInBounds_toArray, List.set_cons_zero, List.set_cons_succ]
          refine wpAnyS_take (i := 4) (v := .func (.func 98) #[] #[.pointer (some ⟨w.heap.size + 3, 0, none⟩)]) _ rfl (by kernel_rfl) (by kernel_rfl) (by kernel_rfl) (by kernel_rfl) (by kernel_rfl) rfl (fun _ _ _ h => h) (Or.inl ⟨by rfl, ?_⟩) hHeld (fun hHeld => ?_)
          · (intro w1 hSw; have hSw := hSw.1; (try dsimp only at hSw); go_simp)
          simp only [List.getElem_toArray, List.getElem_cons_succ, List.getElem_cons_zero, Act.put, List.setIfInBounds_toArray, List.set_cons_zero, List.set_cons_succ]
          refine wpAnyS_take (i := 6) (v := .func (.func 98) #[] #[.pointer (some ⟨w.heap.size + 3, 0, none⟩)]) _ rfl (by kernel_rfl) (by kernel_rfl) (by kernel_rfl) (by kernel_rfl) (by kernel_rfl) rfl (fun _ _ _ h => h) (Or.inl ⟨by rfl, ?_⟩) hHeld (fun hHeld => ?_)
          · (intro w1 hSw; have hSw := hSw.1; (try dsimp only at hSw); go_simp)
          simp only [List.getElem_toArray, List.getElem_cons_succ, List.getElem_cons_zero, Act.put, List.setIfInBounds_toArray, List.set_cons_zero, List.set_cons_succ]
          refine wpAnyS_ready (i := 3) (by kernel_rfl) rfl (fun K hK => ?_)
          go_simp
          refine HSd.out.num.mono ?_
          rintro e W2 ⟨rfl, hs2⟩
          rw [← Hy1.out] at hs2 ⊢
          have HS2 : Hid (RdS w W2 dv (.slice aa k ac) y1.2 Q2.1 ad (.int .i64 0) (.int .i64 0) (.int .i64 0)) := hs2
          clear hs2 HSd HS
          go_simp
          refine hK.out _ _ ⟨?_, fun _ => ?_⟩ (fun hHeld => ?_)
          · trivial
          · exact (five HS2.out.x).2.1
          clear hK K
          refine wpAnyS_ready (i := 5) (by kernel_rfl) rfl (fun K hK => ?_)
          go_simp
          refine HS2.out.num.mono ?_
          rintro e W4 ⟨rfl, hs4⟩
          rw [← Hy2.out] at hs4 ⊢
          have HS4 : Hid (RdS w W4 dv (.slice aa k ac) y2.2 Q2.1 ad (.int .i64 0) (.int .i64 0) (.int .i64 0)) := hs4
          clear hs4 HS2
          go_simp
          refine hK.out _ _ ⟨?_, fun _ => ?_⟩ (fun hHeld => ?_)
          · trivial
          · exact (five HS4.out.x).2.1
          clear hK K
          refine wpAnyS_ready (i := 7) (by kernel_rfl) rfl (fun K hK => ?_)
          go_simp
          refine HS4.out.num.mono ?_
          rintro e W5 ⟨rfl, hs5⟩
          rw [← Hy3.out] at hs5 ⊢
          have HS5 : Hid (RdS w W5 dv (.slice aa k ac) y3.2 Q2.1 ad (.int .i64 0) (.int .i64 0) (.int .i64 0)) := hs5
          obtain ⟨v3, W3, hrun, hx3, hs3⟩ := hs5.add ⟨y1.1, y2.1, y3.1⟩ (by rw [HA.out.1]; omega)
          simp only at hrun
          have HX3 : Hid (W3.heap[w.heap.size + 4]? = _) := hx3
          have HS3 : Hid (RdS w (W3.setCell ⟨w.heap.size + 4, 1, none⟩ v3) dv v3 (stps (3 * (k + 1)) Q3).2 Q2.1 (ad ++ [⟨y1.1, y2.1, y3.1⟩]) (.int .i64 0) (.int .i64 0) (.int .i64 0)) := by
            unfold Hid
            rw [HSn.out]
            exact hs3
          have HA3 : Hid ((ad ++ [(⟨y1.1, y2.1, y3.1⟩ : Ru)]).length = k + 1 ∧ (ad ++ [(⟨y1.1, y2.1, y3.1⟩ : Ru)]).flatMap Ru.n = (stps (3 * (k + 1)) Q3).1) := by
            unfold Hid
            rw [HSn.out, List.length_append, HA.out.1, List.flatMap_append, HA.out.2]
            exact ⟨rfl, rfl⟩
          obtain ⟨va, vc, hv3, -⟩ := GOwn.form HS3.out.a
          rw [HA3.out.1] at hv3
          subst hv3
          clear hs5 hs3 hx3 HS4 HSn HA
          go_simp
          refine hK.out _ _ ⟨?_, fun _ => ?_⟩ (fun hHeld => ?_)
          · trivial
          · exact (five HS5.out.x).2.1
          clear hK K
          refine wpAnyS_take (i := 8) (v := .agg #[.int .i64 y1.1, .int .i64 y2.1, .int .i64 y3.1]) _ rfl (by kernel_rfl) (by kernel_rfl) (by kernel_rfl) (by kernel_rfl) (by kernel_rfl) rfl (fun _ _ _ h => h) (Or.inl ⟨by rfl, ?_⟩) hHeld (fun hHeld => ?_)
          · (intro w1 hSw; have hSw := hSw.1; (try dsimp only at hSw); go_simp)
          simp only [List.getElem_toArray, List.getElem_cons_succ, List.getElem_cons_zero, Act.put, List.setIfInBounds_toArray, List.set_cons_zero, List.set_cons_succ]
          refine wpAnyS_ready (i := 9) (by kernel_rfl) rfl (fun K hK => ?_)
          go_simp
          refine hK.out _ _ ⟨?_, fun _ => ?_⟩ (fun hHeld => ?_)
          · trivial
          · exact (five (HS5.out.below ((Below.refl _ _).alloc (Nat.le_refl _) _)).x).2.1
          clear hK K
          refine wpAnyS_ready (i := 10) (by kernel_rfl) rfl (fun K hK => ?_)
          refine wp_app_runG (.tmp 29) (.tmp 37) 31 31 rfl rfl _ _ _ (by simp [Act.eval]) (by simp [Act.eval]) hrun ?_
          simp only [List.getElem_toArray, List.getElem_cons_succ, List.getElem_cons_zero, Act.put, List.setIfInBounds_toArray, List.set_cons_zero, List.set_cons_succ]
          refine hK.out _ _ ⟨?_, fun _ => ?_⟩ (fun hHeld => ?_)
          · trivial
          · exact (five HX3.out).2.1
          clear hK K
          refine wpAnyS_take (i := 11) (v := .pointer (some ⟨w.heap.size + 4, 1, none⟩)) _ rfl (by kernel_rfl) (by kernel_rfl) (by kernel_rfl) (by kernel_rfl) (by kernel_rfl) rfl (fun _ _ _ h => h) (Or.inl ⟨by rfl, ?_⟩) hHeld (fun hHeld => ?_)
          · (intro w1 hSw; have hSw := hSw.1; (try dsimp only at hSw); go_simp)
          simp only [List.getElem_toArray, List.getElem_cons_succ, List.getElem_cons_zero, Act.put, List.setIfInBounds_toArray, List.set_cons_zero, List.set_cons_succ]
          have c9 := (five HX3.out).2.1
          have f9 := frzOf HX3.out 1
          refine wpAnyS_ready (i := 12) (by kernel_rfl) rfl (fun K hK => ?_)
          go_simp
          refine hK.out _ _ ⟨?_, fun hno => absurd hno (by decide)⟩ (fun hHeld => ?_)
          · trivial
          clear hK K
          refine wpAnyS_done (by kernel_rfl) ?_ _
          refine NoPanic.normal ?_
          go_wp2_with fail
          go_roundw
          case rel => exact ⟨k + 1, _, _, by go_num, by omega, HA3, HS3⟩
          case measure => simp [intOf]; omega
        · have hlt' : ¬ (k : Int) < (N2 : Int) := by omega
          obtain rfl : k = N2 := by omega
          obtain ⟨QA, HQA⟩ := hid_ex (stps (3 * k) Q3)
          obtain ⟨y1, Hy1⟩ := hid_ex (stp big QA.2)
          obtain ⟨y2, Hy2⟩ := hid_ex (stp big y1.2)
          obtain ⟨y3, Hy3⟩ := hid_ex (stp big y2.2)
          rw [← HQA.out] at HS HA
          have HM : Hid (edM b = (⟨Q2.1, ad, y1.1, y2.1, y3.1⟩, y3.2)) := by
            have e1 : stp 64 (false, b) = ((j : Int), Q1) := Prod.ext HN1.out HQ1.out.symm
            have e3 : stp 64 Q2.2 = ((k : Int), Q3) := Prod.ext HN2.out HQ3.out.symm
            have e5 : stps 3 QA.2 = ([y1.1, y2.1, y3.1], y3.2) := by simp only [stps]; rw [← Hy1.out, ← Hy2.out, ← Hy3.out]
            have e6 : ruN QA.1 = ad := by rw [← HA.out.2]; exact ruN_flat ad
            unfold Hid edM
            simp only [e1, Int.toNat_natCast, ← HQ2.out, e3, ← HQA.out, e5, e6]
            rfl
          have HSd : Hid (RdS w wr.drew dv av QA.2 Q2.1 ad (.int .i64 0) (.int .i64 0) (.int .i64 0)) := HS.out.below (Below.refl _ _).drew
          obtain ⟨T, hT⟩ := HSd.out.f
          have c0 := (cellB hT).1
          unfold nxV at c0
          clear hT HN1 HN2 HQ1 HQ2 HQ3 HA HQA hlt
          go_wp2_with fail
          refine wp_region_noPanic ?_
          refine wp_region_held_drew (S := fun w' => w'.cell? ⟨w.heap.size + 3, 0, none⟩ = some (.func (.func 97) #[] #[.pointer (some ⟨w.heap.size + 1, 0, none⟩), .pointer (some ⟨w.heap.size + 2, 0, none⟩)])) (by kernel_rfl) ?_ (fun hHeld => ?_)
          · exact c0
          refine wpAnyH_take (i := 0) (v := .func (.func 98) #[] #[.pointer (some ⟨w.heap.size + 3, 0, none⟩)]) rfl (by kernel_rfl) (by kernel_rfl) (by kernel_rfl) (fun _ _ _ h => h) (Or.inl ⟨by rfl, ?_⟩) (by assumption) ?_
          · (intro w1 hSw; (try dsimp only at hSw); go_simp)
          simp only [List.getElem_toArray, List.getElem_cons_zero, Act.put, List.setIfInBounds_toArray, List.set_cons_zero, List.set_cons_succ]
          refine wpAnyH_take (i := 2) (v := .func (.func 98) #[] #[.pointer (some ⟨w.heap.size + 3, 0, none⟩)]) rfl (by kernel_rfl) (by kernel_rfl) (by kernel_rfl) (fun _ _ _ h => h) (Or.inl ⟨by rfl, ?_⟩) (by assumption) ?_
          · (intro w1 hSw; (try dsimp only at hSw); go_simp)
          simp only [List.getElem_toArray, List.getElem_cons_succ, List.getElem_cons_zero, Act.put, List.setIfInBounds_toArray, List.set_cons_zero, List.set_cons_succ]
          refine wpAnyH_take (i := 4) (v := .func (.func 97) #[] #[.pointer (some ⟨w.heap.size + 1, 0, none⟩), .pointer (some ⟨w.heap.size + 2, 0, none⟩)]) rfl (by kernel_rfl) (by kernel_rfl) (by kernel_rfl) (fun _ _ _ h => h) (Or.inl ⟨by rfl, ?_⟩) (by assumption) ?_
          · (intro w1 hSw; (try dsimp only at hSw); go_simp)
          simp only [List.getElem_toArray, List.getElem_cons_succ, List.getElem_cons_zero, Act.put, List.setIfInBounds_toArray, List.set_cons_zero, List.set_cons_succ]
          refine wpAnyH_ready (rs := [1]) (by kernel_rfl) (by simp) ?_
          refine AllReadyH.cons (o := _) rfl (fun K hK => ?_) AllReadyH.nil
          go_simp
          refine HSd.out.num.mono ?_
          rintro e W2 ⟨rfl, hs2⟩
          rw [← Hy1.out] at hs2 ⊢
          have HS2 : Hid (RdS w W2 dv av y1.2 Q2.1 ad (.int .i64 0) (.int .i64 0) (.int .i64 0)) := hs2
          clear hs2 HSd HS c0
          go_simp
          obtain ⟨T, hT⟩ := HS2.out.f
          have c0 := (cellB hT).1
          unfold nxV at c0
          refine hK.out _ _ ?_ (fun hHeld => ?_)
          · exact c0
          clear hK K
          refine wpAnyH_take (i := 6) (v := .pointer (some ⟨w.heap.size + 4, 2, none⟩)) rfl (by kernel_rfl) (by kernel_rfl) (by kernel_rfl) (fun _ _ _ h => h) (Or.inl ⟨by rfl, ?_⟩) (by assumption) ?_
          · (intro w1 hSw; (try dsimp only at hSw); go_simp)
          simp only [List.getElem_toArray, List.getElem_cons_succ, List.getElem_cons_zero, Act.put, List.setIfInBounds_toArray, List.set_cons_zero, List.set_cons_succ]
          refine wpAnyH_ready (rs := [3]) (by kernel_rfl) (by simp) ?_
          refine AllReadyH.cons (o := _) rfl (fun K hK => ?_) AllReadyH.nil
          go_simp
          refine HS2.out.num.mono ?_
          rintro e W4 ⟨rfl, hs4⟩
          rw [← Hy2.out] at hs4 ⊢
          have HS4 : Hid (RdS w W4 dv av y2.2 Q2.1 ad (.int .i64 0) (.int .i64 0) (.int .i64 0)) := hs4
          clear hs4 HS2 c0 hT T
          go_simp
          obtain ⟨T, hT⟩ := HS4.out.f
          have c0 := (cellB hT).1
          unfold nxV at c0
          refine hK.out _ _ ?_ (fun hHeld => ?_)
          · exact c0
          clear hK K
          refine wpAnyH_ready (rs := [5]) (by kernel_rfl) (by simp) ?_
          refine AllReadyH.cons (o := _) rfl (fun K hK => ?_) AllReadyH.nil
          go_simp
          refine (HS4.out.nxt big (by decide)).mono ?_
          rintro e W5 ⟨rfl, hs5⟩
          rw [← Hy3.out] at hs5 ⊢
          have HS5 : Hid (RdS w W5 dv av y3.2 Q2.1 ad (.int .i64 0) (.int .i64 0) (.int .i64 0)) := hs5
          clear hs5 HS4 c0 hT T
          go_simp
          obtain ⟨T, hT⟩ := HS5.out.f
          have c0 := (cellB hT).1
          unfold nxV at c0
          obtain ⟨_, _, d2, d3, d4⟩ := five HS5.out.x
          have f2 := frzOf HS5.out.x 2
          have f3 := frzOf HS5.out.x 3
          have f4 := frzOf HS5.out.x 4
          have HSf := HS5.out.fin (.int .i64 y1.1) (.int .i64 y2.1) (.int .i64 y3.1)
          have HSF : Hid (RdS w _ dv av y3.2 Q2.1 ad (.int .i64 y1.1) (.int .i64 y2.1) (.int .i64 y3.1)) := HSf
          clear HSf
          refine hK.out _ _ ?_ (fun hHeld => ?_)
          · exact c0
          clear hK K
          refine wpAnyH_ready (rs := [7]) (by kernel_rfl) (by simp) ?_
          refine AllReadyH.cons (o := _) rfl (fun K hK => ?_) AllReadyH.nil
          go_simp
          refine hK.out _ _ ?_ (fun hHeld => ?_)
          · exact (World.cell?_setCell_other _ _ _ _ (by simp)).trans c0
          clear hK K
          refine wpAnyH_take (i := 8) (v := .pointer (some ⟨w.heap.size + 4, 3, none⟩)) rfl (by kernel_rfl) (by kernel_rfl) (by kernel_rfl) (fun _ _ _ h => h) (Or.inl ⟨by rfl, ?_⟩) (by assumption) ?_
          · (intro w1 hSw; (try dsimp only at hSw); go_simp)
          simp only [List.getElem_toArray, List.getElem_cons_succ, List.getElem_cons_zero, Act.put, List.setIfInBounds_toArray, List.set_cons_zero, List.set_cons_succ]
          refine wpAnyH_ready (rs := [9]) (by kernel_rfl) (by simp) ?_
          refine AllReadyH.cons (o := _) rfl (fun K hK => ?_) AllReadyH.nil
          go_simp
          refine hK.out _ _ ?_ (fun hHeld => ?_)
          · exact (World.cell?_setCell_other _ _ _ _ (by simp)).trans ((World.cell?_setCell_other _ _ _ _ (by simp)).trans c0)
          clear hK K
          refine wpAnyH_take (i := 10) (v := .pointer (some ⟨w.heap.size + 4, 4, none⟩)) rfl (by kernel_rfl) (by kernel_rfl) (by kernel_rfl) (fun _ _ _ h => h) (Or.inl ⟨by rfl, ?_⟩) (by assumption) ?_
          · (intro w1 hSw; (try dsimp only at hSw); go_simp)
          simp only [List.getElem_toArray, List.getElem_cons_succ, List.getElem_cons_zero, Act.put, List.setIfInBounds_toArray, List.set_cons_zero, List.set_cons_succ]
          refine wpAnyH_ready (rs := [11]) (by kernel_rfl) (by simp) ?_
          refine AllReadyH.cons (o := _) rfl (fun K hK => ?_) AllReadyH.nil
          go_simp
          refine hK.out _ _ ?_ (fun hHeld => ?_)
          · exact (World.cell?_setCell_other _ _ _ _ (by simp)).trans ((World.cell?_setCell_other _ _ _ _ (by simp)).trans ((World.cell?_setCell_other _ _ _ _ (by simp)).trans c0))
          clear hK K
          refine wpAnyH_done (by kernel_rfl) ?_ _
          refine NoPanic.normal ?_
          clear d2 d3 d4 f2 f3 f4 c0 hT
          generalize ((W5.setCell ⟨w.heap.size + 4, 2, none⟩ (.int .i64 y1.1)).setCell ⟨w.heap.size + 4, 3, none⟩ (.int .i64 y2.1)).setCell ⟨w.heap.size + 4, 4, none⟩ (.int .i64 y3.1) = W6 at *
          obtain ⟨yv, wf, rl⟩ := y3
          simp only at HSF HM
          clear Hy1 Hy2 Hy3
          obtain ⟨rv, hrv, hrr⟩ := HSF.out.n.r
          obtain ⟨ra, rc, rfl, hrm⟩ := (hrr W6 (Onl.refl _ _)).form
          unfold maxLen at hrm
          simp only at hrv hrm
          obtain ⟨_, cl, HRL⟩ : ∃ u cl : Nat, Hid (u = 0 ∧ cl = rl.length) := ⟨0, _, rfl, rfl⟩
          rw [← HRL.out.2] at hrv hrm
          have cR := (cellB hrv).1
          have cD := (cellB HSF.out.n.d).1
          obtain ⟨d0, d1, d2, d3, d4⟩ := five HSF.out.x
          simp only at cD
          have HNone : Hid (wf = true ∨ cl ≠ 0 → ∀ W9, Below w.heap.size W6 W9 → RdC w W9 (.returned (.tuple #[.agg #[.slice none 0 0, .slice none 0 0, .int .i64 0, .int .i64 0, .int .i64 0], .int .i64 100])) b) := fun hh W9 hb9 => by
            have hn : edR b = none := by
              cases he : edR b with
              | none => rfl
              | some x =>
                have := (edM_some he).symm.trans HM.out
                simp only [Prod.mk.injEq] at this
                rcases hh with e | e
                · rw [← this.2.1] at e; cases e
                · rw [HRL.out.2, ← this.2.2] at e; exact absurd rfl e
            refine ⟨.slice none 0 0, .slice none 0 0, by rw [hn]; rfl, ?_, HSF.out.b.trans hb9, capU_nil⟩
            rw [hn]
            exact ⟨⟨none, 0, rfl, by decide, fun j hj => absurd hj (by simp [edZ])⟩, ⟨none, 0, rfl, by decide, fun j hj => absurd hj (by simp [edZ])⟩⟩
          have HSome : Hid (wf = false → cl = 0 → ∀ W9, Below w.heap.size W6 W9 → (∀ k, k ≠ w.heap.size → W9.heap[k]? = W6.heap[k]?) → RdC w W9 (.returned (.tuple #[.agg #[dv, av, .int .i64 y1.1, .int .i64 y2.1, .int .i64 yv], .int .i64 0])) b) := fun h1 h2 W9 hb9 ho => by
            have hn : edR b = some ⟨Q2.1, ad, y1.1, y2.1, yv⟩ := by
              cases he : edR b with
              | none =>
                exfalso
                rcases edM_none he with e | e
                · rw [HM.out] at e; simp only at e; rw [h1] at e; cases e
                · rw [HM.out] at e; simp only at e; exact e (List.length_eq_zero_iff.1 (HRL.out.2.symm.trans h2))
              | some x =>
                have := (edM_some he).symm.trans HM.out
                simp only [Prod.mk.injEq] at this
                rw [this.1]
            refine ⟨dv, av, by rw [hn]; rfl, ?_, HSF.out.b.trans hb9, capU_gown HSF.out.a⟩
            rw [hn]
            exact ⟨gown_jr (HSF.out.d.keep fun k e => ho k (by have := (HSF.out.dk k e).1; omega)), gown_rur (HSF.out.a.keep fun k e => ho k (by have := (HSF.out.ak k e).1; omega))⟩
          obtain ⟨da9, dc9, hdv9, -⟩ := GOwn.form HSF.out.d
          obtain ⟨aa9, ac9, hav9, -⟩ := GOwn.form HSF.out.a
          obtain ⟨D9, hD9⟩ := hid_ex Q2.1.length
          obtain ⟨A9, hA9⟩ := hid_ex ad.length
          rw [← hD9.out] at hdv9
          rw [← hA9.out] at hav9
          subst hdv9
          subst hav9
          have HOne : Hid (([.slice da9 D9 dc9, .slice aa9 A9 ac9, .int .i64 y1.1, .int .i64 y2.1, .int .i64 yv] : List Value).toArray.all (·.oneCell') = true) := by unfold Hid; kernel_rfl
          clear hrv hrr
          cases wf with
          | true =>
            clear cR
            go_wp2_with (refine stop_store 52 _ _ rfl ?_)
            refine Stop.of ?_
            refine wpList_storeN rfl _ _ _ rfl w.heap.size 0 [.slice none 0 0, .slice none 0 0, .int .i64 0, .int .i64 0, .int .i64 0] rfl rfl _ _ HSF.out.z (by simp) (by kernel_rfl) (by kernel_rfl) ?_
            intro W9 hW9
            have HK9 := stW_all hW9 (by simp)
            have HB9 : Hid (Below w.heap.size W6 W9) := hW9.b _ (Nat.le_refl _)
            clear hW9 d0 d1 d2 d3 d4 cD
            go_wp2_with fail
            refine bodyPost_ret (results_c13 rfl _ _ w.heap.size _ rfl (run_loadVar_row _ w.heap.size _ _ _ (0, 0) _ HK9 Tryz.underlying52 rfl (by kernel_rfl))) rfl ?_
            exact HNone.out (.inl (by simp)) W9 HB9.out
          | false =>
            by_cases hc : cl = 0
            · subst hc
              go_wp2_with (refine stop_store 52 _ _ rfl ?_)
              refine Stop.of ?_
              refine wpList_storeN rfl _ _ _ rfl w.heap.size 0 [.slice da9 D9 dc9, .slice aa9 A9 ac9, .int .i64 y1.1, .int .i64 y2.1, .int .i64 yv] rfl rfl _ _ HSF.out.z (by simp) (by kernel_rfl) HOne.out ?_
              intro W9 hW9
              have HK9 := stW_all hW9 (by simp)
              have HB9 : Hid (Below w.heap.size W6 W9) := hW9.b _ (Nat.le_refl _)
              have HO9 : Hid (∀ k, k ≠ w.heap.size → W9.heap[k]? = W6.heap[k]?) := hW9.o
              clear hW9 d0 d1 d2 d3 d4 cD cR
              go_wp2_with fail
              refine bodyPost_ret (results_c13 rfl _ _ w.heap.size _ rfl (run_loadVar_row _ w.heap.size _ _ _ (0, 0) _ HK9 Tryz.underlying52 rfl (by kernel_rfl))) rfl ?_
              exact HSome.out (by simp) (by simp) W9 HB9.out HO9.out
            · have hc' : (0 : Int) < (cl : Int) := by omega
              go_wp2_with (refine stop_store 52 _ _ rfl ?_)
              refine Stop.of ?_
              refine wpList_storeN rfl _ _ _ rfl w.heap.size 0 [.slice none 0 0, .slice none 0 0, .int .i64 0, .int .i64 0, .int .i64 0] rfl rfl _ _ HSF.out.z (by simp) (by kernel_rfl) (by kernel_rfl) ?_
              intro W9 hW9
              have HK9 := stW_all hW9 (by simp)
              have HB9 : Hid (Below w.heap.size W6 W9) := hW9.b _ (Nat.le_refl _)
              clear hW9 d0 d1 d2 d3 d4 cD cR
              go_wp2_with fail
              refine bodyPost_ret (results_c13 rfl _ _ w.heap.size _ rfl (run_loadVar_row _ w.heap.size _ _ _ (0, 0) _ HK9 Tryz.underlying52 rfl (by kernel_rfl))) rfl ?_
              exact HNone.out (.inr hc) W9 HB9.out
theorem read13_any (bv : Value) (b : List UInt8) (w : World) (h : Reads w bv b) :
    Calls Tryz.prog 76 #[bv] w fun e w' => RdP w w' e b := (read13c_any bv b w h).mono fun _ _ ⟨dv, av, h1, h2, h3, _⟩ => ⟨dv, av, h1, h2, h3⟩
end Go.Proofs.YtilbffgpniomcaaGreatDoor
