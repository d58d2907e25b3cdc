/- The contracts of the list's small functions. -/
import Derived.Test.YtbeemkcdpmbhmaaS4
import Derived.Laws.ResultCell
namespace Go.Proofs.Ytbeemkcdpmbhmaa
open Go.RowKit

def agv (a : Ag) : Value := .agg #[.int .u64 a.c, .bool a.o, .int .i64 (hi a.s), .int .u64 (lo a.s), .int .i64 a.mn, .int .i64 a.mx]
def env (kv : Value) (a : Ag) : Value := .agg #[kv, .int .u64 a.c, .bool a.o, .int .i64 (hi a.s), .int .u64 (lo a.s), .int .i64 a.mn, .int .i64 a.mx]
theorem idx8 (G : Nat → Value) (k : Nat) (hk : k < 8) (w : World) : (Instr.index 52 (.agg (ar8 G)) (.int .i64 (k : Int))).run Try.prog w = .ok (G k) w := by
  simp [Instr.index, asIntOf, go_sem, part, ar8_at G k hk, hk]
theorem set6 {w : World} {b : Nat} {T : TypeId} {x0 x1 x2 x3 x4 x5 : Value} (h : w.heap[b]? = some (.cells #[x0, x1, x2, x3, x4, x5] T)) (v0 v1 v2 v3 v4 v5 : Value) :
    ((((((w.setCell ⟨b, 0, none⟩ v0).setCell ⟨b, 1, none⟩ v1).setCell ⟨b, 2, none⟩ v2).setCell ⟨b, 3, none⟩ v3).setCell ⟨b, 4, none⟩ v4).setCell ⟨b, 5, none⟩ v5).heap[b]? = some (.cells #[v0, v1, v2, v3, v4, v5] T) := by
  have h0 := Go.heap_setCell_same w b 0 _ _ v0 h
  have h1 := Go.heap_setCell_same _ b 1 _ _ v1 h0
  have h2 := Go.heap_setCell_same _ b 2 _ _ v2 h1
  have h3 := Go.heap_setCell_same _ b 3 _ _ v3 h2
  have h4 := Go.heap_setCell_same _ b 4 _ _ v4 h3
  have h5 := Go.heap_setCell_same _ b 5 _ _ v5 h4
  simpa using h5
theorem below6 {w0 w : World} {n b : Nat} (h : Below n w0 w) (hb : n ≤ b) (i : Nat) (v0 v1 v2 v3 v4 v5 : Value) :
    Below n w0 ((((((w.setCell ⟨b, i, none⟩ v0).setCell ⟨b, i + 1, none⟩ v1).setCell ⟨b, i + 2, none⟩ v2).setCell ⟨b, i + 3, none⟩ v3).setCell ⟨b, i + 4, none⟩ v4).setCell ⟨b, i + 5, none⟩ v5) := (((((h.setCell hb _).setCell hb _).setCell hb _).setCell hb _).setCell hb _).setCell hb _
theorem results_row_tmp {fn : Func} {p u : Tmp} {ty : TypeId} (h : fn.results = #[.cell p ty, .tmp u]) (tmps : Array Value) (w : World) (g : Nat) (cs : Array Value)
    (hp : tmps.getD p undef = .pointer (some ⟨g, 0, none⟩)) (hl : (loadVar ty ⟨g, 0, none⟩).run Try.prog w = .ok (.agg cs) w) :
    (results fn tmps).run Try.prog w = .ok (.tuple #[.agg cs, tmps.getD u undef]) w := by
  rw [results_cell_tmp h, hp]
  simp [asAddr, hl, Result.andThen]
theorem cell_row {w : World} {b : Nat} {cs : Array Value} {T : TypeId} (h : w.heap[b]? = some (.cells cs T)) (i : Nat) (hi : i < cs.size) : w.cell? ⟨b, i, none⟩ = some cs[i] ∧ w.frozen? ⟨b, i, none⟩ = false := by
  refine ⟨by simp [World.cell?, h, hi], by simp [World.frozen?, h]⟩
theorem has_none (kv : Value) (key : Ks) (w : World) (hR : Reads w kv key) : Calls Try.prog 22 #[.pointer none, kv] w fun e w' => e = .returned (.bool false) ∧ w' = w := by
  obtain ⟨ak, ck, rfl, _⟩ := hR.form
  clear hR
  go_enter Try.func22, Try.ntmps22
  go_wp2_with fail
  go_ret
  exact ⟨rfl, rfl⟩
theorem has_some (b : Nat) (kv0 : Value) (k : Ks) (kv : Value) (key : Ks) (w : World) (hc : w.cell? ⟨b, 0, none⟩ = some kv0) (h0 : Reads w kv0 k) (hR : Reads w kv key) : Calls Try.prog 22 #[.pointer (some ⟨b, 0, none⟩), kv] w fun e w' => e = .returned (.bool (decide (k = key))) ∧ w' = w := by
  have HR : Hid (Reads w kv key) := hR
  have H0 : Hid (Reads w kv0 k) := h0
  obtain ⟨ak, ck, rfl, _⟩ := hR.form
  obtain ⟨a0, c0, rfl, _⟩ := h0.form
  clear hR h0
  go_enter Try.func22, Try.ntmps22
  go_wp2_with fail
  refine (equal_any _ _ k key _ H0.out HR.out).mono ?_
  rintro e w' ⟨rfl, hw⟩
  subst w'
  obtain ⟨q, Hq⟩ := hid_ex (decide (k = key))
  rw [← Hq.out]
  go_wp2_with fail
  go_ret
  exact ⟨by rw [← Hq.out]; rfl, rfl⟩
theorem bp_zero {N : List Nd} (h : ∀ x ∈ N, 1 ≤ x.h ∧ x.h ≤ 8) {i : Nat} (hi : i ≤ N.length) : bp N 0 i = i := by
  cases i with
  | zero => rfl
  | succ i => unfold bp; rw [if_pos]; rw [hgt_at (by omega)]; have := h _ (List.getElem_mem (show i < N.length by omega)); omega
theorem nxF_zero {N : List Nd} (h : ∀ x ∈ N, 1 ≤ x.h ∧ x.h ≤ 8) {i : Nat} (hi : i ≤ N.length) : nxF N i 0 = if h : i < N.length then .pointer (some ⟨N[i].b, 0, none⟩) else .pointer none := by
  have h0 : 0 < hgt N i := by
    cases i with
    | zero => exact (by decide : 0 < 8)
    | succ i => rw [hgt_at (by omega)]; have := h _ (List.getElem_mem (show i < N.length by omega)); omega
  unfold nxF
  rw [if_pos h0]
  split
  · rename_i hlt
    exact nxt_some hlt (Nat.le_refl _) (by have := h _ (List.getElem_mem hlt); omega) (fun j hj h1 h2 => by omega)
  · exact nxt_none (fun j hj h1 => by omega)
/-- What is known of a key. -/
def gtF (N : List Nd) (key : Ks) : Option Ag := if h : plK (N.map Nd.k) key < N.length then (if N[plK (N.map Nd.k) key].k = key then some N[plK (N.map Nd.k) key].a else none) else none
def agZ : Ag := ⟨0, false, 0, 0, 0⟩
theorem agvZ : agv agZ = .agg #[.int .u64 0, .bool false, .int .i64 0, .int .u64 0, .int .i64 0, .int .i64 0] := by unfold agv agZ hi lo; simp
set_option maxRecDepth 100000 in
set_option maxHeartbeats 1000000 in
theorem get_any (L0 : Nat) (N : List Nd) (sz : Int) (fr : Bool) (kv : Value) (key : Ks) (w : World) (base : Nat) (hS : SL w base L0 N sz fr) (hR : Reads w kv key) :
    Calls Try.prog 14 #[.pointer (some ⟨L0, 0, none⟩), kv] w fun e w' => e = .returned (.tuple #[agv ((gtF N key).getD agZ), .bool (gtF N key).isSome]) ∧ Below w.heap.size w w' := by
  have HS : Hid (SL w base L0 N sz fr) := hS
  have HR : Hid (Reads w kv key) := hR
  obtain ⟨ak, ck, rfl, _⟩ := hR.form
  clear hS hR
  have hag := HS.out.2
  have HAl : Hid (Below w.heap.size w (w.alloc (.cells #[.int .u64 0, .bool false, .int .i64 0, .int .u64 0, .int .i64 0, .int .i64 0] 34))) := (Below.refl _ _).alloc (Nat.le_refl _) _
  obtain ⟨w0, HW0⟩ := hid_ex (w.alloc (.cells #[.int .u64 0, .bool false, .int .i64 0, .int .u64 0, .int .i64 0, .int .i64 0] 34))
  have HZ : Hid (w0.heap[w.heap.size]? = some (.cells #[.int .u64 0, .bool false, .int .i64 0, .int .u64 0, .int .i64 0, .int .i64 0] 34)) := by rw [HW0.out]; exact World.alloc_heap_new _ _
  have hs0 : w0.heap.size = w.heap.size + 1 := by rw [HW0.out]; simp
  rw [← HW0.out] at HAl
  obtain ⟨i, Hi⟩ := hid_ex (plK (N.map Nd.k) key)
  have hiN : i ≤ N.length := by rw [Hi.out]; have := plK_le (N.map Nd.k) key; simpa using this
  have HBR : Hid _ := before_any L0 N sz fr _ key w0 base (HS.out.below HAl.out) (HR.out.below HAl.out)
  rw [← Hi.out] at HBR
  obtain ⟨G, HG⟩ := hid_ex (fun k => (.pointer (some ⟨blk L0 N (bp N k i), 0, none⟩) : Value))
  rw [← HG.out] at HBR
  have HG0 : Hid (G 0 = .pointer (some ⟨blk L0 N i, 0, none⟩)) := by rw [HG.out]; unfold Hid; dsimp only; rw [bp_zero hag.ht hiN]
  unfold gtF
  rw [← Hi.out]
  clear hag
  by_cases hlt : i < N.length
  · obtain ⟨nd, Hnd⟩ := hid_ex N[i]
    rw [dif_pos hlt, ← Hnd.out]
    have HP : Hid (nxF N i 0 = .pointer (some ⟨nd.b, 0, none⟩)) := by unfold Hid; rw [nxF_zero HS.out.2.ht hiN, dif_pos hlt, Hnd.out]
    have HN : Hid (w.heap[nd.b]? = some (.cells (ndc nd.kv nd.a (nxF N (i + 1))) 55)) := by have := HS.out.1.nd i hlt; rw [← Hnd.out] at this; exact this
    have HKY : Hid (Reads w nd.kv nd.k) := by have := (HS.out.1.ky i hlt).reads; rw [← Hnd.out] at this; exact this
    by_cases hk : nd.k = key
    · rw [if_pos hk]
      go_enter Try.func14, Try.ntmps14
      go_wp2_with fail
      rw [← HW0.out]
      refine Calls.mono HBR.out ?_
      rintro e w1 ⟨rfl, hb1⟩
      have HB1 : Hid (Below w.heap.size w w1) := HAl.out.trans (hb1.mono HAl.out.size)
      have hix : (Instr.index 52 (.agg (ar8 G)) (.int .i64 0)).run Try.prog w1 = .ok (G 0) w1 := idx8 G 0 (by decide) w1
      rw [HG0.out] at hix
      obtain ⟨cN, _, hbl⟩ := HS.out.1.blk_hd (p := i) hiN (k := 0) (by decide)
      have cN2 := (HB1.out.cell (p := ⟨blk L0 N i, 7 + 0, none⟩) hbl).trans cN
      rw [HP.out] at cN2
      have hbn := (Array.getElem?_eq_some_iff.1 HN.out).1
      have HN1 : Hid (w1.heap[nd.b]? = some (.cells (ndc nd.kv nd.a (nxF N (i + 1))) 55)) := (HB1.out.block _ hbn).trans HN.out
      have ck : w1.cell? ⟨nd.b, 0, none⟩ = some nd.kv := by simp [World.cell?, show w1.heap[nd.b]? = _ from HN1.out, ndc]
      have HCK : Hid _ := ck
      have a1 : w1.cell? ⟨nd.b, 1, none⟩ = some (.int .u64 nd.a.c) := by simp [World.cell?, show w1.heap[nd.b]? = _ from HN1.out, ndc]
      have a2 : w1.cell? ⟨nd.b, 2, none⟩ = some (.bool nd.a.o) := by simp [World.cell?, show w1.heap[nd.b]? = _ from HN1.out, ndc]
      have a3 : w1.cell? ⟨nd.b, 3, none⟩ = some (.int .i64 (hi nd.a.s)) := by simp [World.cell?, show w1.heap[nd.b]? = _ from HN1.out, ndc]
      have a4 : w1.cell? ⟨nd.b, 4, none⟩ = some (.int .u64 (lo nd.a.s)) := by simp [World.cell?, show w1.heap[nd.b]? = _ from HN1.out, ndc]
      have a5 : w1.cell? ⟨nd.b, 5, none⟩ = some (.int .i64 nd.a.mn) := by simp [World.cell?, show w1.heap[nd.b]? = _ from HN1.out, ndc]
      have a6 : w1.cell? ⟨nd.b, 6, none⟩ = some (.int .i64 nd.a.mx) := by simp [World.cell?, show w1.heap[nd.b]? = _ from HN1.out, ndc]
      have HZ1 : Hid (w1.heap[w.heap.size]? = some (.cells #[.int .u64 0, .bool false, .int .i64 0, .int .u64 0, .int .i64 0, .int .i64 0] 34)) := (hb1.block _ (by omega)).trans HZ.out
      obtain ⟨z0, f0⟩ := cell_row HZ1.out 0 (by simp)
      simp only [List.getElem_toArray, List.getElem_cons_zero] at z0
      obtain ⟨z1, f1⟩ := cell_row HZ1.out 1 (by simp)
      simp only [List.getElem_toArray, List.getElem_cons_succ, List.getElem_cons_zero] at z1
      obtain ⟨z2, f2⟩ := cell_row HZ1.out 2 (by simp)
      simp only [List.getElem_toArray, List.getElem_cons_succ, List.getElem_cons_zero] at z2
      obtain ⟨z3, f3⟩ := cell_row HZ1.out 3 (by simp)
      simp only [List.getElem_toArray, List.getElem_cons_succ, List.getElem_cons_zero] at z3
      obtain ⟨z4, f4⟩ := cell_row HZ1.out 4 (by simp)
      simp only [List.getElem_toArray, List.getElem_cons_succ, List.getElem_cons_zero] at z4
      obtain ⟨z5, f5⟩ := cell_row HZ1.out 5 (by simp)
      simp only [List.getElem_toArray, List.getElem_cons_succ, List.getElem_cons_zero] at z5
      have HBZ : Hid (Below w.heap.size w _) := below6 HB1.out (Nat.le_refl _) 0 (.int .u64 nd.a.c) (.bool nd.a.o) (.int .i64 (hi nd.a.s)) (.int .u64 (lo nd.a.s)) (.int .i64 nd.a.mn) (.int .i64 nd.a.mx)
      clear hb1 cN
      go_wp2_with fail
      refine (has_some nd.b nd.kv nd.k _ key _ HCK.out (HKY.out.below HB1.out) (HR.out.below HB1.out)).mono ?_
      rintro e w2 ⟨rfl, hw2⟩
      subst w2
      rw [decide_eq_true hk]
      go_wp2_with fail
      exact bodyPost_ret (results_row_tmp rfl _ _ w.heap.size _ rfl (run_loadVar_row _ w.heap.size _ _ _ (0, 0) _ (set6 HZ1.out _ _ _ _ _ _) Try.underlying34 rfl (by kernel_rfl))) rfl ⟨rfl, HBZ.out⟩
    · rw [if_neg hk]
      go_enter Try.func14, Try.ntmps14
      go_wp2_with fail
      rw [← HW0.out]
      refine Calls.mono HBR.out ?_
      rintro e w1 ⟨rfl, hb1⟩
      have HB1 : Hid (Below w.heap.size w w1) := HAl.out.trans (hb1.mono HAl.out.size)
      have hix : (Instr.index 52 (.agg (ar8 G)) (.int .i64 0)).run Try.prog w1 = .ok (G 0) w1 := idx8 G 0 (by decide) w1
      rw [HG0.out] at hix
      obtain ⟨cN, _, hbl⟩ := HS.out.1.blk_hd (p := i) hiN (k := 0) (by decide)
      have cN2 := (HB1.out.cell (p := ⟨blk L0 N i, 7 + 0, none⟩) hbl).trans cN
      rw [HP.out] at cN2
      have hbn := (Array.getElem?_eq_some_iff.1 HN.out).1
      have HN1 : Hid (w1.heap[nd.b]? = some (.cells (ndc nd.kv nd.a (nxF N (i + 1))) 55)) := (HB1.out.block _ hbn).trans HN.out
      have ck : w1.cell? ⟨nd.b, 0, none⟩ = some nd.kv := by simp [World.cell?, show w1.heap[nd.b]? = _ from HN1.out, ndc]
      have HCK : Hid _ := ck
      have HZ1 : Hid (w1.heap[w.heap.size]? = some (.cells #[.int .u64 0, .bool false, .int .i64 0, .int .u64 0, .int .i64 0, .int .i64 0] 34)) := (hb1.block _ (by omega)).trans HZ.out
      obtain ⟨z0, f0⟩ := cell_row HZ1.out 0 (by simp)
      simp only [List.getElem_toArray, List.getElem_cons_zero] at z0
      obtain ⟨z1, f1⟩ := cell_row HZ1.out 1 (by simp)
      simp only [List.getElem_toArray, List.getElem_cons_succ, List.getElem_cons_zero] at z1
      obtain ⟨z2, f2⟩ := cell_row HZ1.out 2 (by simp)
      simp only [List.getElem_toArray, List.getElem_cons_succ, List.getElem_cons_zero] at z2
      obtain ⟨z3, f3⟩ := cell_row HZ1.out 3 (by simp)
      simp only [List.getElem_toArray, List.getElem_cons_succ, List.getElem_cons_zero] at z3
      obtain ⟨z4, f4⟩ := cell_row HZ1.out 4 (by simp)
      simp only [List.getElem_toArray, List.getElem_cons_succ, List.getElem_cons_zero] at z4
      obtain ⟨z5, f5⟩ := cell_row HZ1.out 5 (by simp)
      simp only [List.getElem_toArray, List.getElem_cons_succ, List.getElem_cons_zero] at z5
      have HBZ : Hid (Below w.heap.size w _) := below6 HB1.out (Nat.le_refl _) 0 (.int .u64 0) (.bool false) (.int .i64 0) (.int .u64 0) (.int .i64 0) (.int .i64 0)
      clear hb1 cN
      go_wp2_with fail
      refine (has_some nd.b nd.kv nd.k _ key _ HCK.out (HKY.out.below HB1.out) (HR.out.below HB1.out)).mono ?_
      rintro e w2 ⟨rfl, hw2⟩
      subst w2
      rw [decide_eq_false hk]
      go_wp2_with fail
      exact bodyPost_ret (results_row_tmp rfl _ _ w.heap.size _ rfl (run_loadVar_row _ w.heap.size _ _ _ (0, 0) _ (set6 HZ1.out _ _ _ _ _ _) Try.underlying34 rfl (by kernel_rfl))) rfl ⟨by show Ending.returned (Value.tuple #[Value.agg #[_, _, _, _, _, _], Value.bool false]) = Ending.returned (Value.tuple #[agv agZ, Value.bool false]); rw [agvZ], HBZ.out⟩
  · rw [dif_neg hlt]
    have HP3 : Hid (nxF N i 0 = .pointer none) := by unfold Hid; rw [nxF_zero HS.out.2.ht hiN, dif_neg hlt]
    go_enter Try.func14, Try.ntmps14
    go_wp2_with fail
    rw [← HW0.out]
    refine Calls.mono HBR.out ?_
    rintro e w1 ⟨rfl, hb1⟩
    have HB1 : Hid (Below w.heap.size w w1) := HAl.out.trans (hb1.mono HAl.out.size)
    have hix : (Instr.index 52 (.agg (ar8 G)) (.int .i64 0)).run Try.prog w1 = .ok (G 0) w1 := idx8 G 0 (by decide) w1
    rw [HG0.out] at hix
    obtain ⟨cN, _, hbl⟩ := HS.out.1.blk_hd (p := i) hiN (k := 0) (by decide)
    have cN2 := (HB1.out.cell (p := ⟨blk L0 N i, 7 + 0, none⟩) hbl).trans cN
    rw [HP3.out] at cN2
    have HZ1 : Hid (w1.heap[w.heap.size]? = some (.cells #[.int .u64 0, .bool false, .int .i64 0, .int .u64 0, .int .i64 0, .int .i64 0] 34)) := (hb1.block _ (by omega)).trans HZ.out
    obtain ⟨z0, f0⟩ := cell_row HZ1.out 0 (by simp)
    simp only [List.getElem_toArray, List.getElem_cons_zero] at z0
    obtain ⟨z1, f1⟩ := cell_row HZ1.out 1 (by simp)
    simp only [List.getElem_toArray, List.getElem_cons_succ, List.getElem_cons_zero] at z1
    obtain ⟨z2, f2⟩ := cell_row HZ1.out 2 (by simp)
    simp only [List.getElem_toArray, List.getElem_cons_succ, List.getElem_cons_zero] at z2
    obtain ⟨z3, f3⟩ := cell_row HZ1.out 3 (by simp)
    simp only [List.getElem_toArray, List.getElem_cons_succ, List.getElem_cons_zero] at z3
    obtain ⟨z4, f4⟩ := cell_row HZ1.out 4 (by simp)
    simp only [List.getElem_toArray, List.getElem_cons_succ, List.getElem_cons_zero] at z4
    obtain ⟨z5, f5⟩ := cell_row HZ1.out 5 (by simp)
    simp only [List.getElem_toArray, List.getElem_cons_succ, List.getElem_cons_zero] at z5
    have HBZ : Hid (Below w.heap.size w _) := below6 HB1.out (Nat.le_refl _) 0 (.int .u64 0) (.bool false) (.int .i64 0) (.int .u64 0) (.int .i64 0) (.int .i64 0)
    clear hb1 cN
    go_wp2_with fail
    refine (has_none _ key _ (HR.out.below HB1.out)).mono ?_
    rintro e w2 ⟨rfl, hw2⟩
    subst w2
    go_wp2_with fail
    exact bodyPost_ret (results_row_tmp rfl _ _ w.heap.size _ rfl (run_loadVar_row _ w.heap.size _ _ _ (0, 0) _ (set6 HZ1.out _ _ _ _ _ _) Try.underlying34 rfl (by kernel_rfl))) rfl ⟨by show Ending.returned (Value.tuple #[Value.agg #[_, _, _, _, _, _], Value.bool false]) = Ending.returned (Value.tuple #[agv agZ, Value.bool false]); rw [agvZ], HBZ.out⟩
end Go.Proofs.Ytbeemkcdpmbhmaa
