/- S5 RS S6, joined. -/
import Derived.Test.YtdeaglfjlfbdoaaTG5
import Derived.Laws.ResultCell
import Derived.Test.YtdeaglfjlfbdoaaRows
import Derived.WalkKit
import Derived.Deep.RegionHeld3
/- The contracts of the list's small functions. -/
namespace Go.Proofs.Ytdeaglfjlfbdoaa
open Go.RowKit

def agv (a : Ag) : Value := .agg #[.int .u64 a.c, .bool a.o, .int .i64 (hi a.s), .int .u64 (lo a.s), .int .i64 a.mn, .int .i64 a.mx]
def env (kv : Value) (a : Ag) : Value := .agg #[kv, .int .u64 a.c, .bool a.o, .int .i64 (hi a.s), .int .u64 (lo a.s), .int .i64 a.mn, .int .i64 a.mx]
theorem idx8 (G : Nat → Value) (k : Nat) (hk : k < 8) (w : World) : (Instr.index 59 (.agg (ar8 G)) (.int .i64 (k : Int))).run Try.prog w = .ok (G k) w := by
  simp [Instr.index, asIntOf, go_sem, part, ar8_at G k hk, hk]
theorem set6 {w : World} {b : Nat} {T : TypeId} {x0 x1 x2 x3 x4 x5 : Value} (h : w.heap[b]? = some (.cells #[x0, x1, x2, x3, x4, x5] T)) (v0 v1 v2 v3 v4 v5 : Value) :
    ((((((w.setCell ⟨b, 0, none⟩ v0).setCell ⟨b, 1, none⟩ v1).setCell ⟨b, 2, none⟩ v2).setCell ⟨b, 3, none⟩ v3).setCell ⟨b, 4, none⟩ v4).setCell ⟨b, 5, none⟩ v5).heap[b]? = some (.cells #[v0, v1, v2, v3, v4, v5] T) := by
  have h0 := Go.heap_setCell_same w b 0 _ _ v0 h
  have h1 := Go.heap_setCell_same _ b 1 _ _ v1 h0
  have h2 := Go.heap_setCell_same _ b 2 _ _ v2 h1
  have h3 := Go.heap_setCell_same _ b 3 _ _ v3 h2
  have h4 := Go.heap_setCell_same _ b 4 _ _ v4 h3
  have h5 := Go.heap_setCell_same _ b 5 _ _ v5 h4
  simpa using h5
theorem below6 {w0 w : World} {n b : Nat} (h : Below n w0 w) (hb : n ≤ b) (i : Nat) (v0 v1 v2 v3 v4 v5 : Value) :
    Below n w0 ((((((w.setCell ⟨b, i, none⟩ v0).setCell ⟨b, i + 1, none⟩ v1).setCell ⟨b, i + 2, none⟩ v2).setCell ⟨b, i + 3, none⟩ v3).setCell ⟨b, i + 4, none⟩ v4).setCell ⟨b, i + 5, none⟩ v5) := (((((h.setCell hb _).setCell hb _).setCell hb _).setCell hb _).setCell hb _).setCell hb _
theorem results_row_tmp {fn : Func} {p u : Tmp} {ty : TypeId} (h : fn.results = #[.cell p ty, .tmp u]) (tmps : Array Value) (w : World) (g : Nat) (cs : Array Value)
    (hp : tmps.getD p undef = .pointer (some ⟨g, 0, none⟩)) (hl : (loadVar ty ⟨g, 0, none⟩).run Try.prog w = .ok (.agg cs) w) :
    (results fn tmps).run Try.prog w = .ok (.tuple #[.agg cs, tmps.getD u undef]) w := by
  rw [results_cell_tmp h, hp]
  simp [asAddr, hl, Result.andThen]
theorem cell_row {w : World} {b : Nat} {cs : Array Value} {T : TypeId} (h : w.heap[b]? = some (.cells cs T)) (i : Nat) (hi : i < cs.size) : w.cell? ⟨b, i, none⟩ = some cs[i] ∧ w.frozen? ⟨b, i, none⟩ = false := by
  refine ⟨by simp [World.cell?, h, hi], by simp [World.frozen?, h]⟩
theorem has_none (kv : Value) (key : Ks) (w : World) (hR : Reads w kv key) : Calls Try.prog 23 #[.pointer none, kv] w fun e w' => e = .returned (.bool false) ∧ w' = w := by
  obtain ⟨ak, ck, rfl, _⟩ := hR.form
  clear hR
  go_enter Try.func23, Try.ntmps23
  go_wp2_with fail
  go_ret
  exact ⟨rfl, rfl⟩
theorem has_some (b : Nat) (kv0 : Value) (k : Ks) (kv : Value) (key : Ks) (w : World) (hc : w.cell? ⟨b, 0, none⟩ = some kv0) (h0 : Reads w kv0 k) (hR : Reads w kv key) : Calls Try.prog 23 #[.pointer (some ⟨b, 0, none⟩), kv] w fun e w' => e = .returned (.bool (decide (k = key))) ∧ w' = w := by
  have HR : Hid (Reads w kv key) := hR
  have H0 : Hid (Reads w kv0 k) := h0
  obtain ⟨ak, ck, rfl, _⟩ := hR.form
  obtain ⟨a0, c0, rfl, _⟩ := h0.form
  clear hR h0
  go_enter Try.func23, Try.ntmps23
  go_wp2_with fail
  refine (equal_any _ _ k key _ H0.out HR.out).mono ?_
  rintro e w' ⟨rfl, hw⟩
  subst w'
  obtain ⟨q, Hq⟩ := hid_ex (decide (k = key))
  rw [← Hq.out]
  go_wp2_with fail
  go_ret
  exact ⟨by rw [← Hq.out]; rfl, rfl⟩
theorem bp_zero {N : List Nd} (h : ∀ x ∈ N, 1 ≤ x.h ∧ x.h ≤ 8) {i : Nat} (hi : i ≤ N.length) : bp N 0 i = i := by
  cases i with
  | zero => rfl
  | succ i => unfold bp; rw [if_pos]; rw [hgt_at (by omega)]; have := h _ (List.getElem_mem (show i < N.length by omega)); omega
theorem nxF_zero {N : List Nd} (h : ∀ x ∈ N, 1 ≤ x.h ∧ x.h ≤ 8) {i : Nat} (hi : i ≤ N.length) : nxF N i 0 = if h : i < N.length then .pointer (some ⟨N[i].b, 0, none⟩) else .pointer none := by
  have h0 : 0 < hgt N i := by
    cases i with
    | zero => exact (by decide : 0 < 8)
    | succ i => rw [hgt_at (by omega)]; have := h _ (List.getElem_mem (show i < N.length by omega)); omega
  unfold nxF
  rw [if_pos h0]
  split
  · rename_i hlt
    exact nxt_some hlt (Nat.le_refl _) (by have := h _ (List.getElem_mem hlt); omega) (fun j hj h1 h2 => by omega)
  · exact nxt_none (fun j hj h1 => by omega)
/-- What is known of a key. -/
def gtF (N : List Nd) (key : Ks) : Option Ag := if h : plK (N.map Nd.k) key < N.length then (if N[plK (N.map Nd.k) key].k = key then some N[plK (N.map Nd.k) key].a else none) else none
def agZ : Ag := ⟨0, false, 0, 0, 0⟩
theorem agvZ : agv agZ = .agg #[.int .u64 0, .bool false, .int .i64 0, .int .u64 0, .int .i64 0, .int .i64 0] := by unfold agv agZ hi lo; simp
end Go.Proofs.Ytdeaglfjlfbdoaa

/- A drawn region's walk may hold on to more, as it goes on. -/
namespace Go.Proofs.Ytdeaglfjlfbdoaa
open Go.RowKit

theorem wpAnyH_sub {P : Program} {md : Region.Mode} {ops : Array Oper} {Q : Exit → Act → World → Prop} {S S' : World → Prop} (hS : ∀ w, S' w → S w) :
    ∀ (fuel : Nat) (listed : Array Bool) (a : Act) (w : World), wpAnyH P md ops Q S' fuel listed a w → wpAnyH P md ops Q S fuel listed a w
  | 0, _, _, _, h => h
  | fuel + 1, _, _, _, h => ⟨h.1, fun i hi => wpOp_mono (fun a' w' h' => ⟨hS _ h'.1, wpAnyH_sub hS fuel _ a' w' h'.2⟩) (h.2 i hi)⟩
end Go.Proofs.Ytdeaglfjlfbdoaa

/- The contracts of mayPut and copied. -/
namespace Go.Proofs.Ytdeaglfjlfbdoaa
open Go.RowKit

theorem set7 {w : World} {b : Nat} {T : TypeId} {x0 x1 x2 x3 x4 x5 x6 : Value} (h : w.heap[b]? = some (.cells #[x0, x1, x2, x3, x4, x5, x6] T)) (v0 v1 v2 v3 v4 v5 v6 : Value) :
    (((((((w.setCell ⟨b, 0, none⟩ v0).setCell ⟨b, 1, none⟩ v1).setCell ⟨b, 2, none⟩ v2).setCell ⟨b, 3, none⟩ v3).setCell ⟨b, 4, none⟩ v4).setCell ⟨b, 5, none⟩ v5).setCell ⟨b, 6, none⟩ v6).heap[b]? = some (.cells #[v0, v1, v2, v3, v4, v5, v6] T) := by
  have h0 := Go.heap_setCell_same w b 0 _ _ v0 h
  have h1 := Go.heap_setCell_same _ b 1 _ _ v1 h0
  have h2 := Go.heap_setCell_same _ b 2 _ _ v2 h1
  have h3 := Go.heap_setCell_same _ b 3 _ _ v3 h2
  have h4 := Go.heap_setCell_same _ b 4 _ _ v4 h3
  have h5 := Go.heap_setCell_same _ b 5 _ _ v5 h4
  have h6 := Go.heap_setCell_same _ b 6 _ _ v6 h5
  simpa using h6
theorem own7 {w : World} {base : Nat} {v : Value} {l : List UInt8} {cs : Array Value} {T : TypeId} (b : Nat) (h : Own w base v l) (hb : w.heap[b]? = some (.cells cs T)) (hT : T ≠ 5) (i : Nat) (u : Value) : Own (w.setCell ⟨b, i, none⟩ u) base v l := by
  obtain ⟨q1, q2⟩ := h
  refine ⟨q1, ?_⟩
  rcases q2 with q2 | ⟨g, cap, cur, hv, hg, hw, r⟩
  · exact .inl q2
  · refine .inr ⟨g, cap, cur, hv, hg, ?_, r⟩
    rw [Below.heap_setCell _ _ _ _ (fun e => ?_)]
    · exact hw
    · have e' : g = b := e
      rw [e', hb] at hw
      simp at hw
      exact hT hw.2
/-- What forbids to put an entry. -/
def mpF (fr : Bool) (h : Int) (n : Nat) (a : Ag) : Int := if h < 1 ∨ 8 < h then 1 else if fr = true then 7 else if n < 1 ∨ 256 < n then 40 else if a.c = 0 ∨ rightB a = false then 3 else 0
theorem mayPut_nil (kv : Value) (a : Ag) (h : Int) (w : World) : Calls Try.prog 21 #[.pointer none, env kv a, .int .i64 h] w fun e w' => e = .returned (.int .i64 6) ∧ Below w.heap.size w w' := by
  unfold env
  go_enter Try.func21, Try.ntmps21
  go_wp2_with fail
  go_ret
  exact ⟨rfl, (Below.refl _ _).alloc (Nat.le_refl _) _⟩
theorem mayPut_any (L0 : Nat) (fr : Bool) (kv : Value) (k : Ks) (a : Ag) (h : Int) (w : World) (hL : L0 < w.heap.size) (hc : w.cell? ⟨L0, 17, none⟩ = some (.bool fr)) (hR : Reads w kv k) : Calls Try.prog 21 #[.pointer (some ⟨L0, 0, none⟩), env kv a, .int .i64 h] w fun e w' => e = .returned (.int .i64 (mpF fr h k.length a)) ∧ Below w.heap.size w w' := by
  obtain ⟨ak, ck, rfl, _⟩ := hR.form
  clear hR
  have HB : Hid (Below w.heap.size w (w.alloc (.cells #[.slice ak k.length ck, .int .u64 a.c, .bool a.o, .int .i64 (hi a.s), .int .u64 (lo a.s), .int .i64 a.mn, .int .i64 a.mx] 47))) := (Below.refl _ _).alloc (Nat.le_refl _) _
  have hc2 := (HB.out.cell (p := ⟨L0, 17, none⟩) hL).trans hc
  clear hc
  unfold env mpF
  by_cases h1 : h < 1 ∨ 8 < h
  · rw [if_pos h1]
    by_cases h2 : h < 1
    · go_enter Try.func21, Try.ntmps21
      go_wp2_with fail
      go_ret
      exact ⟨rfl, HB.out⟩
    · have h3 : 8 < h := by omega
      go_enter Try.func21, Try.ntmps21
      go_wp2_with fail
      go_ret
      exact ⟨rfl, HB.out⟩
  rw [if_neg h1]
  have h2 : ¬ h < 1 := by omega
  have h3 : ¬ 8 < h := by omega
  clear h1
  cases hfr : fr
  · rw [hfr] at hc2
    simp only [Bool.false_eq_true, if_false]
    by_cases h4 : k.length < 1 ∨ 256 < k.length
    · rw [if_pos h4]
      by_cases h5 : k.length < 1
      · have h6 : (k.length : Int) < 1 := by omega
        go_enter Try.func21, Try.ntmps21
        go_wp2_with fail
        go_ret
        exact ⟨rfl, HB.out⟩
      · have h6 : ¬ (k.length : Int) < 1 := by omega
        have h7 : (256 : Int) < (k.length : Int) := by omega
        go_enter Try.func21, Try.ntmps21
        go_wp2_with fail
        go_ret
        exact ⟨rfl, HB.out⟩
    rw [if_neg h4]
    have h6 : ¬ (k.length : Int) < 1 := by omega
    have h7 : ¬ (256 : Int) < (k.length : Int) := by omega
    clear h4
    by_cases h8 : a.c = 0
    · rw [if_pos (.inl h8)]
      rw [h8] at hc2 HB ⊢
      clear h8
      go_enter Try.func21, Try.ntmps21
      go_wp2_with fail
      go_ret
      exact ⟨rfl, HB.out⟩
    · have HRT : Hid _ := right_any a (w.alloc (.cells #[.slice ak k.length ck, .int .u64 a.c, .bool a.o, .int .i64 (hi a.s), .int .u64 (lo a.s), .int .i64 a.mn, .int .i64 a.mx] 47))
      obtain ⟨rb, Hrb⟩ := hid_ex (rightB a)
      rw [← Hrb.out] at HRT ⊢
      cases rb
      · rw [if_pos (.inr rfl)]
        go_enter Try.func21, Try.ntmps21
        go_wp2_with fail
        refine Calls.mono HRT.out ?_
        rintro e w2 ⟨rfl, hb2⟩
        have HB2 : Hid (Below w.heap.size w w2) := HB.out.trans (hb2.mono HB.out.size)
        clear hb2
        go_wp2_with fail
        go_ret
        exact ⟨rfl, HB2.out⟩
      · rw [if_neg (by simp [h8])]
        go_enter Try.func21, Try.ntmps21
        go_wp2_with fail
        refine Calls.mono HRT.out ?_
        rintro e w2 ⟨rfl, hb2⟩
        have HB2 : Hid (Below w.heap.size w w2) := HB.out.trans (hb2.mono HB.out.size)
        clear hb2
        go_wp2_with fail
        go_ret
        exact ⟨rfl, HB2.out⟩
  · rw [hfr] at hc2
    simp only [if_true]
    go_enter Try.func21, Try.ntmps21
    go_wp2_with fail
    go_ret
    exact ⟨rfl, HB.out⟩
theorem copied_any (kv : Value) (k : Ks) (a : Ag) (w : World) (hR : Reads w kv k) (h0 : 0 < k.length) (h1 : k.length ≤ 1000) : Calls Try.prog 25 #[env kv a] w fun e w' => ∃ kv', e = .returned (env kv' a) ∧ Own w' w.heap.size kv' k ∧ Below w.heap.size w w' := by
  have HR : Hid (Reads w kv k) := hR
  obtain ⟨ak, ck, rfl, _⟩ := hR.form
  clear hR
  unfold env
  have hal := ((Below.refl w.heap.size w).alloc (Nat.le_refl _) (.cells #[.slice ak k.length ck, .int .u64 a.c, .bool a.o, .int .i64 (hi a.s), .int .u64 (lo a.s), .int .i64 a.mn, .int .i64 a.mx] 47)).alloc (by simp) (.cells #[.slice none 0 0, .int .u64 0, .bool false, .int .i64 0, .int .u64 0, .int .i64 0, .int .i64 0] 47)
  have hx1 := World.alloc_heap_new w (.cells #[.slice ak k.length ck, .int .u64 a.c, .bool a.o, .int .i64 (hi a.s), .int .u64 (lo a.s), .int .i64 a.mn, .int .i64 a.mx] 47)
  have hx2 := (((Below.refl (w.heap.size + 1) (w.alloc (.cells #[.slice ak k.length ck, .int .u64 a.c, .bool a.o, .int .i64 (hi a.s), .int .u64 (lo a.s), .int .i64 a.mn, .int .i64 a.mx] 47))).alloc (by simp) (.cells #[.slice none 0 0, .int .u64 0, .bool false, .int .i64 0, .int .u64 0, .int .i64 0, .int .i64 0] 47)).block w.heap.size (by omega)).trans hx1
  have hy2 := World.alloc_heap_new (w.alloc (.cells #[.slice ak k.length ck, .int .u64 a.c, .bool a.o, .int .i64 (hi a.s), .int .u64 (lo a.s), .int .i64 a.mn, .int .i64 a.mx] 47)) (.cells #[.slice none 0 0, .int .u64 0, .bool false, .int .i64 0, .int .u64 0, .int .i64 0, .int .i64 0] 47)
  rw [World.size_alloc] at hy2
  obtain ⟨w2, HW2⟩ := hid_ex ((w.alloc (.cells #[.slice ak k.length ck, .int .u64 a.c, .bool a.o, .int .i64 (hi a.s), .int .u64 (lo a.s), .int .i64 a.mn, .int .i64 a.mx] 47)).alloc (.cells #[.slice none 0 0, .int .u64 0, .bool false, .int .i64 0, .int .u64 0, .int .i64 0, .int .i64 0] 47))
  have hs2 : w2.heap.size = w.heap.size + 1 + 1 := by rw [HW2.out]; simp
  rw [← HW2.out] at hal hx2 hy2
  obtain ⟨i0, hi0, hz0, hz1, hz2⟩ := info_parts info5
  obtain ⟨w3, hrn, hown3, hg3⟩ := run_make_full (P := Try.prog) w2 w2.heap.size 23 5 i0 (.int .u8 0) 1 Try.underlying23 hi0 hz0 hz1 .i64 .i64 k.length (by rw [hz2]; omega) (by unfold maxLen; omega) (Nat.le_refl _)
  rw [Nat.mul_one] at hown3
  have HO3 : Hid (Own w3 w2.heap.size (.slice (some ⟨w2.heap.size, 0, none⟩) k.length k.length) (List.replicate k.length 0)) := own_zeros hown3
  have HB3' : Hid (Below w2.heap.size w2 w3) := (Below.refl _ _).grown hg3 (Nat.le_refl _) (fun k hk => by cases hk)
  have HB3 : Hid (Below w.heap.size w w3) := hal.trans (HB3'.out.mono (by omega))
  have HX3 : Hid (w3.heap[w.heap.size]? = some (.cells #[.slice ak k.length ck, .int .u64 a.c, .bool a.o, .int .i64 (hi a.s), .int .u64 (lo a.s), .int .i64 a.mn, .int .i64 a.mx] 47)) := (HB3'.out.block _ (by omega)).trans hx2
  have HY3 : Hid (w3.heap[w.heap.size + 1]? = some (.cells #[.slice none 0 0, .int .u64 0, .bool false, .int .i64 0, .int .u64 0, .int .i64 0, .int .i64 0] 47)) := (HB3'.out.block _ (by omega)).trans hy2
  obtain ⟨cx0, _⟩ := cell_row HX3.out 0 (by simp)
  simp only [List.getElem_toArray, List.getElem_cons_zero] at cx0
  clear hown3 hg3 hal hx1 hx2 hy2 hi0 hz0 hz1 hz2
  obtain ⟨w4, hcp, HO4, hb4, hg4⟩ := copy_own (off := 0) 3 HO3.out (HR.out.below HB3.out) h0 (by simp)
  rw [hs2] at HO4 hcp hb4 hg4
  rw [Nat.sub_zero] at hcp
  rw [List.take_zero, List.nil_append] at HO4
  have HO4 := HO4.mono (show w.heap.size ≤ w.heap.size + 1 + 1 by omega)
  have HB4 : Hid (Below w.heap.size w w4) := HB3.out.trans (hb4.out.mono (by omega))
  have HX4 : Hid (w4.heap[w.heap.size]? = some (.cells #[.slice ak k.length ck, .int .u64 a.c, .bool a.o, .int .i64 (hi a.s), .int .u64 (lo a.s), .int .i64 a.mn, .int .i64 a.mx] 47)) := (hg4.out.block _ (Array.getElem?_eq_some_iff.1 HX3.out).1 (by simp; omega)).trans HX3.out
  have HY4 : Hid (w4.heap[w.heap.size + 1]? = some (.cells #[.slice none 0 0, .int .u64 0, .bool false, .int .i64 0, .int .u64 0, .int .i64 0, .int .i64 0] 47)) := (hg4.out.block _ (Array.getElem?_eq_some_iff.1 HY3.out).1 (by simp)).trans HY3.out
  obtain ⟨a1, _⟩ := cell_row HX4.out 1 (by simp)
  simp only [List.getElem_toArray, List.getElem_cons_succ, List.getElem_cons_zero] at a1
  obtain ⟨a2, _⟩ := cell_row HX4.out 2 (by simp)
  simp only [List.getElem_toArray, List.getElem_cons_succ, List.getElem_cons_zero] at a2
  obtain ⟨a3, _⟩ := cell_row HX4.out 3 (by simp)
  simp only [List.getElem_toArray, List.getElem_cons_succ, List.getElem_cons_zero] at a3
  obtain ⟨a4, _⟩ := cell_row HX4.out 4 (by simp)
  simp only [List.getElem_toArray, List.getElem_cons_succ, List.getElem_cons_zero] at a4
  obtain ⟨a5, _⟩ := cell_row HX4.out 5 (by simp)
  simp only [List.getElem_toArray, List.getElem_cons_succ, List.getElem_cons_zero] at a5
  obtain ⟨a6, _⟩ := cell_row HX4.out 6 (by simp)
  simp only [List.getElem_toArray, List.getElem_cons_succ, List.getElem_cons_zero] at a6
  obtain ⟨z0, f0⟩ := cell_row HY4.out 0 (by simp)
  simp only [List.getElem_toArray, List.getElem_cons_zero] at z0
  obtain ⟨z1, f1⟩ := cell_row HY4.out 1 (by simp)
  simp only [List.getElem_toArray, List.getElem_cons_succ, List.getElem_cons_zero] at z1
  obtain ⟨z2, f2⟩ := cell_row HY4.out 2 (by simp)
  simp only [List.getElem_toArray, List.getElem_cons_succ, List.getElem_cons_zero] at z2
  obtain ⟨z3, f3⟩ := cell_row HY4.out 3 (by simp)
  simp only [List.getElem_toArray, List.getElem_cons_succ, List.getElem_cons_zero] at z3
  obtain ⟨z4, f4⟩ := cell_row HY4.out 4 (by simp)
  simp only [List.getElem_toArray, List.getElem_cons_succ, List.getElem_cons_zero] at z4
  obtain ⟨z5, f5⟩ := cell_row HY4.out 5 (by simp)
  simp only [List.getElem_toArray, List.getElem_cons_succ, List.getElem_cons_zero] at z5
  obtain ⟨z6, f6⟩ := cell_row HY4.out 6 (by simp)
  simp only [List.getElem_toArray, List.getElem_cons_succ, List.getElem_cons_zero] at z6
  have HBE : Hid (Below w.heap.size w _) := (((((((HB4.out.setCell (p := ⟨w.heap.size + 1, 0, none⟩) (by simp) (.slice (some ⟨w.heap.size + 1 + 1, 0, none⟩) k.length k.length)).setCell (p := ⟨w.heap.size + 1, 1, none⟩) (by simp) (.int .u64 a.c)).setCell (p := ⟨w.heap.size + 1, 2, none⟩) (by simp) (.bool a.o)).setCell (p := ⟨w.heap.size + 1, 3, none⟩) (by simp) (.int .i64 (hi a.s))).setCell (p := ⟨w.heap.size + 1, 4, none⟩) (by simp) (.int .u64 (lo a.s))).setCell (p := ⟨w.heap.size + 1, 5, none⟩) (by simp) (.int .i64 a.mn)).setCell (p := ⟨w.heap.size + 1, 6, none⟩) (by simp) (.int .i64 a.mx))
  have HOE : Hid (Own _ w.heap.size (.slice (some ⟨w.heap.size + 1 + 1, 0, none⟩) k.length k.length) k) := (own7 (w.heap.size + 1) (own7 (w.heap.size + 1) (own7 (w.heap.size + 1) (own7 (w.heap.size + 1) (own7 (w.heap.size + 1) (own7 (w.heap.size + 1) (own7 (w.heap.size + 1) HO4 HY4.out (by decide) 0 (.slice (some ⟨w.heap.size + 1 + 1, 0, none⟩) k.length k.length)) (Go.heap_setCell_same _ (w.heap.size + 1) 0 _ _ (.slice (some ⟨w.heap.size + 1 + 1, 0, none⟩) k.length k.length) HY4.out) (by decide) 1 (.int .u64 a.c)) (Go.heap_setCell_same _ (w.heap.size + 1) 1 _ _ (.int .u64 a.c) (Go.heap_setCell_same _ (w.heap.size + 1) 0 _ _ (.slice (some ⟨w.heap.size + 1 + 1, 0, none⟩) k.length k.length) HY4.out)) (by decide) 2 (.bool a.o)) (Go.heap_setCell_same _ (w.heap.size + 1) 2 _ _ (.bool a.o) (Go.heap_setCell_same _ (w.heap.size + 1) 1 _ _ (.int .u64 a.c) (Go.heap_setCell_same _ (w.heap.size + 1) 0 _ _ (.slice (some ⟨w.heap.size + 1 + 1, 0, none⟩) k.length k.length) HY4.out))) (by decide) 3 (.int .i64 (hi a.s))) (Go.heap_setCell_same _ (w.heap.size + 1) 3 _ _ (.int .i64 (hi a.s)) (Go.heap_setCell_same _ (w.heap.size + 1) 2 _ _ (.bool a.o) (Go.heap_setCell_same _ (w.heap.size + 1) 1 _ _ (.int .u64 a.c) (Go.heap_setCell_same _ (w.heap.size + 1) 0 _ _ (.slice (some ⟨w.heap.size + 1 + 1, 0, none⟩) k.length k.length) HY4.out)))) (by decide) 4 (.int .u64 (lo a.s))) (Go.heap_setCell_same _ (w.heap.size + 1) 4 _ _ (.int .u64 (lo a.s)) (Go.heap_setCell_same _ (w.heap.size + 1) 3 _ _ (.int .i64 (hi a.s)) (Go.heap_setCell_same _ (w.heap.size + 1) 2 _ _ (.bool a.o) (Go.heap_setCell_same _ (w.heap.size + 1) 1 _ _ (.int .u64 a.c) (Go.heap_setCell_same _ (w.heap.size + 1) 0 _ _ (.slice (some ⟨w.heap.size + 1 + 1, 0, none⟩) k.length k.length) HY4.out))))) (by decide) 5 (.int .i64 a.mn)) (Go.heap_setCell_same _ (w.heap.size + 1) 5 _ _ (.int .i64 a.mn) (Go.heap_setCell_same _ (w.heap.size + 1) 4 _ _ (.int .u64 (lo a.s)) (Go.heap_setCell_same _ (w.heap.size + 1) 3 _ _ (.int .i64 (hi a.s)) (Go.heap_setCell_same _ (w.heap.size + 1) 2 _ _ (.bool a.o) (Go.heap_setCell_same _ (w.heap.size + 1) 1 _ _ (.int .u64 a.c) (Go.heap_setCell_same _ (w.heap.size + 1) 0 _ _ (.slice (some ⟨w.heap.size + 1 + 1, 0, none⟩) k.length k.length) HY4.out)))))) (by decide) 6 (.int .i64 a.mx))
  clear hb4 hg4 HO4
  go_enter Try.func25, Try.ntmps25
  rw [HW2.out] at hrn
  go_wp2_with fail
  refine bodyPost_ret (results_cell_row rfl _ _ (w.heap.size + 1) _ _ (0, 0) _ rfl (set7 HY4.out _ _ _ _ _ _ _) Try.underlying47 rfl (by kernel_rfl)) rfl ⟨_, rfl, HOE.out, HBE.out⟩
end Go.Proofs.Ytdeaglfjlfbdoaa
