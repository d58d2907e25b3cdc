/- What the fixed calls of layer 14's 'alive' come to. -/
import Derived.Test.YtdamlnpfpfpeeaaMG14
import Derived.Test.YtdamlnpfpfpeeaaRI
import Derived.Lib.SmallJoins
namespace Go.Proofs.Ytdamlnpfpfpeeaa
open Go.RowKit Go.Joins

def ag1 : Ag := ⟨1, false, 0, 0, 0⟩
theorem cn1 : CnOk ag1 := ⟨by decide, by decide⟩
/-- What is kept from one operation of a region to the next. -/
structure Rm (w w' : World) : Prop where
  s : w.heap.size ≤ w'.heap.size
  c : ∀ a v, w.cell? a = some v → w'.cell? a = some v
  h : ∀ g s, w.shape? g = some s → w'.shape? g = some s
theorem Rm.of_below {w w' : World} (h : Below w.heap.size w w') : Rm w w' := ⟨h.size, fun _ _ q => (h.cell (cell_block q).1).trans q, fun g s q => by
  have hl : g < w.heap.size := by
    rcases Nat.lt_or_ge g w.heap.size with h' | h'
    · exact h'
    · unfold World.shape? at q; rw [Array.getElem?_eq_none h'] at q; cases q
  unfold World.shape? at q ⊢
  rw [h.block g hl]; exact q⟩
theorem Reads.rm {w w' : World} {v : Value} {l : List UInt8} (h : Reads w v l) (r : Rm w w') : Reads w' v l := by
  rcases h with h | ⟨b, off, cap, h1, h2, h3, h4, h5, h6⟩
  · exact .inl h
  · exact .inr ⟨b, off, cap, h1, h2, h3, h4, Nat.lt_of_lt_of_le h5 r.s, fun j hj => r.c _ _ (h6 j hj)⟩
theorem EReads.rm {w w' : World} {v : Value} {L : List En} (h : EReads w v L) (r : Rm w w') : EReads w' v L := by
  obtain ⟨a, cap, rfl, h1, h2, h3⟩ := h
  refine ⟨a, cap, rfl, h1, h2, ?_⟩
  rcases h3 with h3 | ⟨b, off, h4, h5, h6⟩
  · exact .inl h3
  · refine .inr ⟨b, off, h4, Nat.lt_of_lt_of_le h5 r.s, fun j hj => ?_⟩
    obtain ⟨kv, g1, g2, g3⟩ := h6 j hj
    exact ⟨kv, fun i hi => r.c _ _ (g1 i hi), g2.rm r, g3⟩
/-- What an operation yields. -/
inductive Sp
  | raw (x : UInt8)
  | byt (x : UInt8)
  | agg
  | ent (x : UInt8)
  | row (x y : UInt8)
def spOk (n0 : Nat) : Sp → Value → World → Prop
  | .raw x, v, w => ∃ g, v = .slice (some ⟨g, 0, none⟩) 1 1 ∧ n0 ≤ g ∧ w.shape? g = some (5, 1) ∧ w.cell? ⟨g, 0, none⟩ = some (bc x)
  | .byt x, v, w => ∃ g, v = .slice (some ⟨g, 0, none⟩) 1 1 ∧ Reads w v [x]
  | .agg, v, _ => v = .agg #[.int .u64 1, .bool false, .int .i64 0, .int .u64 0, .int .i64 0, .int .i64 0]
  | .ent x, v, w => ∃ g, v = .agg #[.slice (some ⟨g, 0, none⟩) 1 1, .int .u64 1, .bool false, .int .i64 0, .int .u64 0, .int .i64 0, .int .i64 0] ∧ Reads w (.slice (some ⟨g, 0, none⟩) 1 1) [x]
  | .row x y, v, w => ∃ g, v = .slice (some ⟨g, 0, none⟩) 2 2 ∧ EReads w v [([x], ag1), ([y], ag1)]
theorem spOk.rm {n0 : Nat} (s : Sp) (v : Value) (w w' : World) (r : Rm w w') (h : spOk n0 s v w) : spOk n0 s v w' := by
  cases s with
  | raw x => obtain ⟨g, h1, h2, h3, h4⟩ := h; exact ⟨g, h1, h2, r.h _ _ h3, r.c _ _ h4⟩
  | byt x => obtain ⟨g, h1, h2⟩ := h; exact ⟨g, h1, h2.rm r⟩
  | agg => exact h
  | ent x => obtain ⟨g, h1, h2⟩ := h; exact ⟨g, h1, h2.rm r⟩
  | row x y => obtain ⟨g, h1, h2⟩ := h; exact ⟨g, h1, h2.rm r⟩
def frz : Obj → Obj
  | .cells c e (lo, hi) => .cells c e (if (lo == hi) = true then (1, 2) else (min lo 1, max hi 2))
  | o => o
theorem freeze_heap (w : World) (g k : Nat) : (w.freeze ⟨g, 1, none⟩ 1).heap[k]? = if g = k then (w.heap[k]?).map frz else w.heap[k]? := by
  unfold World.freeze
  rw [if_neg (by decide)]
  show (w.heap.modify g _)[k]? = _
  rw [Array.getElem?_modify]
  rfl
/-- The mark of a constant text's bytes. -/
theorem run_mark {w : World} {g : Nat} (h : w.shape? g = some (5, 1)) : ∃ w', (convert 29 29 (.slice (some ⟨g, 0, none⟩) 1 1)).run Try.prog w = .ok (.slice (some ⟨g, 0, none⟩) 1 1) w' ∧ Rm w w' ∧ ∀ B, B ≤ g → Below B w w' := by
  refine ⟨w.freeze ⟨g, 1, none⟩ 1, ?_, ?_, ?_⟩
  · simp [convert, run_underlying Try.underlying29, run_underlying Try.underlying5, markStringish, h]
  · refine ⟨by simp [World.freeze], fun a v q => ?_, fun k s q => ?_⟩
    · unfold World.cell? at q ⊢
      rw [freeze_heap]
      cases hk : w.heap[a.block]? with
      | none => rw [hk] at q; cases q
      | some o =>
        rw [hk] at q
        by_cases e : g = a.block
        · rw [if_pos e]
          cases o with
          | cells c el fr =>
            obtain ⟨f1, f2⟩ := fr
            exact q
          | _ => cases q
        · rw [if_neg e]; exact q
    · unfold World.shape? at q ⊢
      rw [freeze_heap]
      cases hk : w.heap[k]? with
      | none => rw [hk] at q; cases q
      | some o =>
        rw [hk] at q
        by_cases e : g = k
        · rw [if_pos e]
          cases o with
          | cells c el fr =>
            obtain ⟨f1, f2⟩ := fr
            exact q
          | _ => cases q
        · rw [if_neg e]; exact q
  · intro B hB
    exact ⟨rfl, rfl, rfl, by simp [World.freeze], fun k hk => by rw [freeze_heap, if_neg (by omega)]⟩
theorem two_rows (w : World) (kv kv' : Value) (x y : UInt8) (h : Reads w kv [x]) (h' : Reads w kv' [y]) : EReads (w.alloc (.cells #[kv, .int .u64 1, .bool false, .int .i64 0, .int .u64 0, .int .i64 0, .int .i64 0, kv', .int .u64 1, .bool false, .int .i64 0, .int .u64 0, .int .i64 0, .int .i64 0] 36)) (.slice (some ⟨w.heap.size, 0, none⟩) 2 2) [([x], ag1), ([y], ag1)] := by
  have hb := (Below.refl w.heap.size w).alloc (Nat.le_refl _) (.cells #[kv, .int .u64 1, .bool false, .int .i64 0, .int .u64 0, .int .i64 0, .int .i64 0, kv', .int .u64 1, .bool false, .int .i64 0, .int .u64 0, .int .i64 0, .int .i64 0] 36)
  refine ⟨_, 2, rfl, by simp, by simp [maxLen], .inr ⟨w.heap.size, 0, rfl, by simp, fun j hj => ?_⟩⟩
  have hj2 : j < 2 := hj
  match j, hj2 with
  | 0, _ =>
    refine ⟨kv, fun i hi => ?_, h.below hb, cn1⟩
    rw [cell_of_block (heap_alloc_new _ _)]
    match i, hi with
    | 0, _ | 1, _ | 2, _ | 3, _ | 4, _ | 5, _ | 6, _ => rfl
  | 1, _ =>
    refine ⟨kv', fun i hi => ?_, h'.below hb, cn1⟩
    rw [cell_of_block (heap_alloc_new _ _)]
    match i, hi with
    | 0, _ | 1, _ | 2, _ | 3, _ | 4, _ | 5, _ | 6, _ => rfl
def alS : List Sp := [.raw 97, .byt 97, .agg, .ent 97, .raw 99, .byt 99, .agg, .ent 99, .row 97 99, .raw 98, .byt 98, .agg, .ent 98, .raw 99, .byt 99, .agg, .ent 99, .row 98 99, .row 97 99, .row 98 99]
/-- The rows of 'alive'. -/
def alR : List (List En) := [[([97], ag1), ([99], ag1)], [([98], ag1), ([99], ag1)]]
theorem alR_ok : rowsF alR = 0 := by decide
theorem alR_len : ∀ r ∈ alR, r.length ≤ 100000 := by decide
theorem alR_key : ∀ r ∈ alR, ∀ x ∈ r, x.1.length ≤ 100000 := by
  intro r hr x hx
  simp only [alR, List.mem_cons, List.not_mem_nil, or_false] at hr
  rcases hr with rfl | rfl <;> (simp only [List.mem_cons, List.not_mem_nil, or_false] at hx; rcases hx with rfl | rfl <;> decide)
theorem alR_seq : seqF alR = [(([97], 0), ag1), (([98], 1), ag1), (([99], 0), ag1), (([99], 1), ag1)] := by
  refine pw_unique (seqF_pw alR_ok) ?_ ((srtG_perm _).trans ?_)
  · simp only [List.pairwise_cons, List.Pairwise.nil, List.mem_cons, List.not_mem_nil, or_false, and_true]
    unfold ltG
    refine ⟨?_, ?_, ?_, ?_⟩
    · rintro a (rfl | rfl | rfl) <;> decide
    · rintro a (rfl | rfl) <;> decide
    · rintro a rfl; decide
    · intro a h; cases h
  · exact List.Perm.cons _ (List.Perm.swap _ _ _)
theorem alR_all : allF alR = [([97], ag1), ([98], ag1), ([99], mrg ag1 ag1)] := by unfold allF; rw [alR_seq]; rfl
theorem three_of {α : Type} : ∀ {xs : List α}, xs.length = 3 → ∃ a b c, xs = [a, b, c]
  | [a, b, c], _ => ⟨a, b, c, rfl⟩
theorem two_lists {w : World} {a b : Value} {L M : List En} (ha : EReads w a L) (hb : EReads w b M) : RReads (w.alloc (.cells #[a, b] 25)) (.slice (some ⟨w.heap.size, 0, none⟩) 2 2) [L, M] := by
  have hbl := (Below.refl w.heap.size w).alloc (Nat.le_refl _) (.cells #[a, b] 25)
  refine ⟨_, 2, rfl, by simp, by simp [maxLen], .inr ⟨w.heap.size, 0, rfl, by simp, fun j hj => ?_⟩⟩
  have hj2 : j < 2 := hj
  match j, hj2 with
  | 0, _ => exact ⟨a, by rw [cell_of_block (heap_alloc_new _ _)]; rfl, ha.below hbl⟩
  | 1, _ => exact ⟨b, by rw [cell_of_block (heap_alloc_new _ _)]; rfl, hb.below hbl⟩
theorem one_list {w : World} {a : Value} {L : List En} (ha : EReads w a L) : RReads (w.alloc (.cells #[a] 25)) (.slice (some ⟨w.heap.size, 0, none⟩) 1 1) [L] := by
  have hbl := (Below.refl w.heap.size w).alloc (Nat.le_refl _) (.cells #[a] 25)
  refine ⟨_, 1, rfl, by simp, by simp [maxLen], .inr ⟨w.heap.size, 0, rfl, by simp, fun j hj => ?_⟩⟩
  have hj2 : j < 1 := hj
  match j, hj2 with
  | 0, _ => exact ⟨a, by rw [cell_of_block (heap_alloc_new _ _)]; rfl, ha.below hbl⟩
/-- Those that are none. -/
def alN : List (List En) := [[([99], ag1), ([97], ag1)]]
theorem alN_bad : rowsF alN = 50 := by decide
theorem alN_len : ∀ r ∈ alN, r.length ≤ 100000 := by decide
theorem alN_key : ∀ r ∈ alN, ∀ x ∈ r, x.1.length ≤ 100000 := by
  intro r hr x hx
  simp only [alN, List.mem_cons, List.not_mem_nil, or_false] at hr
  subst hr
  simp only [List.mem_cons, List.not_mem_nil, or_false] at hx
  rcases hx with rfl | rfl <;> decide
def alV (n0 : Nat) (j : Nat) (v : Value) (w : World) : Prop := spOk n0 (alS.getD j .agg) v w
set_option maxRecDepth 100000 in
set_option maxHeartbeats 2000000 in
theorem alive_any (w : World) : Calls Try.prog 5 #[] w fun e w' => e = .returned (.bool true) ∧ Below w.heap.size w w' := by
  go_enter Try.func5, Try.ntmps5
  go_wp2_with fail
  have HC : Hid (∀ W, Below (w.heap.size + 1) (w.alloc (.cells #[.int .u64 1, .bool false, .int .i64 0, .int .u64 0, .int .i64 0, .int .i64 0] 34)) W → W.heap[w.heap.size]? = some (.cells #[.int .u64 1, .bool false, .int .i64 0, .int .u64 0, .int .i64 0, .int .i64 0] 34)) := fun W hW => (hW.block _ (by omega)).trans (heap_alloc_new _ _)
  have hsz : (w.alloc (.cells #[.int .u64 1, .bool false, .int .i64 0, .int .u64 0, .int .i64 0, .int .i64 0] 34)).heap.size = w.heap.size + 1 := by simp
  refine region_inv (by kernel_rfl) [9, 10, 11, 12, 13, 14, 15, 16, 17, 18, 19, 20, 21, 22, 23, 24, 25, 26, 2, 3] Rm (alV (w.heap.size + 1)) (fun j v A B hr hv => spOk.rm _ v A B hr hv) (by kernel_rfl) (by kernel_rfl) ?steps ?done
  case done =>
    intro f w1 hB hd
    have h18 : spOk (w.heap.size + 1) (.row 97 99) (f 2) w1 := hd 18 (by decide)
    have h19 : spOk (w.heap.size + 1) (.row 98 99) (f 3) w1 := hd 19 (by decide)
    obtain ⟨ga, hga, hra⟩ := h18
    obtain ⟨gb, hgb, hrb⟩ := h19
    rw [hga] at hra
    rw [hgb] at hrb
    have HB1 : Hid (Below w.heap.size w w1) := ((Below.refl w.heap.size w).alloc (Nat.le_refl _) _).trans (hB.mono (by simp))
    have HRA : Hid (EReads w1 (.slice (some ⟨ga, 0, none⟩) 2 2) [([97], ag1), ([99], ag1)]) := hra
    have HRB : Hid (EReads w1 (.slice (some ⟨gb, 0, none⟩) 2 2) [([98], ag1), ([99], ag1)]) := hrb
    simp only [frF, tmOf, List.contains_cons, List.contains_nil, Nat.reduceAdd, Nat.zero_add, Nat.reduceBEq, Bool.or_false, Bool.false_or, cond_true, cond_false]
    rw [hga, hgb]
    clear hga hgb
    clear hd hB HC hsz hra hrb
    have HRR : Hid (RReads (w1.alloc (.cells #[.slice (some ⟨ga, 0, none⟩) 2 2, .slice (some ⟨gb, 0, none⟩) 2 2] 25)) (.slice (some ⟨w1.heap.size, 0, none⟩) 2 2) alR) := two_lists HRA.out HRB.out
    have HBb : Hid (Below w1.heap.size w1 (w1.alloc (.cells #[.slice (some ⟨ga, 0, none⟩) 2 2, .slice (some ⟨gb, 0, none⟩) 2 2] 25))) := (Below.refl _ _).alloc (Nat.le_refl _) _
    go_wp2_with fail
    refine (all_some _ alR _ HRR.out (by decide) alR_len alR_key).mono ?_
    rintro e w2 ⟨hb2, ⟨hne, _⟩ | ⟨_, v, xs, rfl, ho2, hm2, _⟩⟩
    · exact absurd alR_ok hne
    have HB12 : Hid (Below w1.heap.size w1 w2) := HBb.out.trans (hb2.mono HBb.out.size)
    have HB2 : Hid (Below w.heap.size w w2) := HB1.out.trans (HB12.out.mono HB1.out.size)
    rw [alR_all] at hm2
    obtain ⟨x0, x1, x2, rfl⟩ : ∃ x0 x1 x2, xs = [x0, x1, x2] := three_of (by have := congrArg List.length hm2; simpa using this)
    have hx2 : x2.a = mrg ag1 ag1 := by
      have h9 := congrArg (fun l => (l.getD 2 ([], agZ)).2) hm2
      simpa [evE] using h9
    obtain ⟨av, cv, rfl, _, _, hat⟩ := ho2.at
    obtain ⟨g, rfl, _, hgs, hcell⟩ := hat (by simp)
    have k1 := (hcell 2 (by simp) 1 (by decide)).1
    simp only [List.getElem_cons_zero, List.getElem_cons_succ, c7, hx2] at k1
    have hmc : (mrg ag1 ag1).c = 2 := rfl
    rw [hmc] at k1
    have HK1 : Hid (w2.cell? ⟨g, 2 * 7 + 1, none⟩ = some (.int .u64 2)) := k1
    obtain ⟨kv0, hc0, hr0, _⟩ := eReads_at (HRA.out.below HB12.out) (k := 0) (by decide) rfl
    obtain ⟨kv1, hc1, hr1, _⟩ := eReads_at (HRA.out.below HB12.out) (k := 1) (by decide) rfl
    obtain ⟨k0a, k0c, hk0, _⟩ := hr0.form
    obtain ⟨k1a, k1c, hk1, _⟩ := hr1.form
    subst hk0 hk1
    have HE0 : Hid (Reads w2 (.slice k0a 1 k0c) [97]) := hr0
    have HE1 : Hid (Reads w2 (.slice k1a 1 k1c) [99]) := hr1
    have p0 : w2.cell? ⟨ga, 0, none⟩ = some (.slice k0a 1 k0c) := hc0 0 (by decide)
    have p1 : w2.cell? ⟨ga, 1, none⟩ = some (.int .u64 1) := hc0 1 (by decide)
    have p2 : w2.cell? ⟨ga, 2, none⟩ = some (.bool false) := hc0 2 (by decide)
    have p3 : w2.cell? ⟨ga, 3, none⟩ = some (.int .i64 0) := hc0 3 (by decide)
    have p4 : w2.cell? ⟨ga, 4, none⟩ = some (.int .u64 0) := hc0 4 (by decide)
    have p5 : w2.cell? ⟨ga, 5, none⟩ = some (.int .i64 0) := hc0 5 (by decide)
    have p6 : w2.cell? ⟨ga, 6, none⟩ = some (.int .i64 0) := hc0 6 (by decide)
    have q0 : w2.cell? ⟨ga, 7, none⟩ = some (.slice k1a 1 k1c) := hc1 0 (by decide)
    have q1 : w2.cell? ⟨ga, 8, none⟩ = some (.int .u64 1) := hc1 1 (by decide)
    have q2 : w2.cell? ⟨ga, 9, none⟩ = some (.bool false) := hc1 2 (by decide)
    have q3 : w2.cell? ⟨ga, 10, none⟩ = some (.int .i64 0) := hc1 3 (by decide)
    have q4 : w2.cell? ⟨ga, 11, none⟩ = some (.int .u64 0) := hc1 4 (by decide)
    have q5 : w2.cell? ⟨ga, 12, none⟩ = some (.int .i64 0) := hc1 5 (by decide)
    have q6 : w2.cell? ⟨ga, 13, none⟩ = some (.int .i64 0) := hc1 6 (by decide)
    have hgl : ga < w2.heap.size := (cell_block p0).1
    clear hb2 ho2 hm2 hat hcell hc0 hc1 hr0 hr1 hmc k1 hx2
    go_wp2_with fail
    refine wp_region_noPanic ?_
    refine wp_region_held_drew (S := (fun w' => Below w2.heap.size w2 w')) (by kernel_rfl) ?_ (fun hHeld => ?_)
    · exact (Below.refl _ _).drew
    refine wpAnyH_take (i := 0) (v := .slice (some ⟨ga, 0, none⟩) 2 2) rfl (by kernel_rfl) (by kernel_rfl) (by kernel_rfl) (fun _ _ _ h => h) (Or.inl ⟨by rfl, ?_⟩) (by assumption) ?_
    · (intro w1 hSw; (try dsimp only at hSw); go_simp)
    simp only [List.getElem_toArray, List.getElem_cons_zero, Act.put, List.setIfInBounds_toArray, List.set_cons_zero, List.set_cons_succ]
    refine wpAnyH_take (i := 1) (v := .pointer (some ⟨ga, 7, none⟩)) rfl (by kernel_rfl) (by kernel_rfl) (by kernel_rfl) (fun _ _ _ h => h) (Or.inl ⟨by rfl, ?_⟩) (by assumption) ?_
    · (intro w1 hSw; (try dsimp only at hSw); go_simp)
    simp only [List.getElem_toArray, List.getElem_cons_succ, List.getElem_cons_zero, Act.put, List.setIfInBounds_toArray, List.set_cons_zero, List.set_cons_succ]
    refine wpAnyH_take (i := 2) (v := .agg #[.slice k1a 1 k1c, .int .u64 1, .bool false, .int .i64 0, .int .u64 0, .int .i64 0, .int .i64 0]) rfl (by kernel_rfl) (by kernel_rfl) (by kernel_rfl) (fun _ _ _ h => h) (Or.inl ⟨by rfl, ?_⟩) (by assumption) ?_
    · (intro w1 hSw; (try dsimp only at hSw); have r0 := (hSw.cell (p := ⟨ga, 7, none⟩) hgl).trans q0; have r1 := (hSw.cell (p := ⟨ga, 8, none⟩) hgl).trans q1; have r2 := (hSw.cell (p := ⟨ga, 9, none⟩) hgl).trans q2; have r3 := (hSw.cell (p := ⟨ga, 10, none⟩) hgl).trans q3; have r4 := (hSw.cell (p := ⟨ga, 11, none⟩) hgl).trans q4; have r5 := (hSw.cell (p := ⟨ga, 12, none⟩) hgl).trans q5; have r6 := (hSw.cell (p := ⟨ga, 13, none⟩) hgl).trans q6; go_simp)
    simp only [List.getElem_toArray, List.getElem_cons_succ, List.getElem_cons_zero, Act.put, List.setIfInBounds_toArray, List.set_cons_zero, List.set_cons_succ]
    refine wpAnyH_take (i := 3) (v := .slice (some ⟨ga, 0, none⟩) 2 2) rfl (by kernel_rfl) (by kernel_rfl) (by kernel_rfl) (fun _ _ _ h => h) (Or.inl ⟨by rfl, ?_⟩) (by assumption) ?_
    · (intro w1 hSw; (try dsimp only at hSw); go_simp)
    simp only [List.getElem_toArray, List.getElem_cons_succ, List.getElem_cons_zero, Act.put, List.setIfInBounds_toArray, List.set_cons_zero, List.set_cons_succ]
    refine wpAnyH_take (i := 4) (v := .pointer (some ⟨ga, 0, none⟩)) rfl (by kernel_rfl) (by kernel_rfl) (by kernel_rfl) (fun _ _ _ h => h) (Or.inl ⟨by rfl, ?_⟩) (by assumption) ?_
    · (intro w1 hSw; (try dsimp only at hSw); go_simp)
    simp only [List.getElem_toArray, List.getElem_cons_succ, List.getElem_cons_zero, Act.put, List.setIfInBounds_toArray, List.set_cons_zero, List.set_cons_succ]
    refine wpAnyH_take (i := 5) (v := .agg #[.slice k0a 1 k0c, .int .u64 1, .bool false, .int .i64 0, .int .u64 0, .int .i64 0, .int .i64 0]) rfl (by kernel_rfl) (by kernel_rfl) (by kernel_rfl) (fun _ _ _ h => h) (Or.inl ⟨by rfl, ?_⟩) (by assumption) ?_
    · (intro w1 hSw; (try dsimp only at hSw); have r0 := (hSw.cell (p := ⟨ga, 0, none⟩) hgl).trans p0; have r1 := (hSw.cell (p := ⟨ga, 1, none⟩) hgl).trans p1; have r2 := (hSw.cell (p := ⟨ga, 2, none⟩) hgl).trans p2; have r3 := (hSw.cell (p := ⟨ga, 3, none⟩) hgl).trans p3; have r4 := (hSw.cell (p := ⟨ga, 4, none⟩) hgl).trans p4; have r5 := (hSw.cell (p := ⟨ga, 5, none⟩) hgl).trans p5; have r6 := (hSw.cell (p := ⟨ga, 6, none⟩) hgl).trans p6; go_simp)
    simp only [List.getElem_toArray, List.getElem_cons_succ, List.getElem_cons_zero, Act.put, List.setIfInBounds_toArray, List.set_cons_zero, List.set_cons_succ]
    refine wpAnyH_ready (rs := [6]) (by kernel_rfl) (by simp) ?_
    refine AllReadyH.cons (o := _) rfl (fun K hK => ?_) AllReadyH.nil
    go_simp
    refine hK.out _ _ ?_ (fun hHeld => ?_)
    · exact (((Below.refl w2.heap.size w2).alloc (Nat.le_refl _) _)).drew
    clear hK K
    refine wpAnyH_ready (rs := [7]) (by kernel_rfl) (by simp) ?_
    refine AllReadyH.cons (o := _) rfl (fun K hK => ?_) AllReadyH.nil
    go_simp
    refine hK.out _ _ ?_ (fun hHeld => ?_)
    · exact (((Below.refl w2.heap.size w2).alloc (Nat.le_refl _) _).alloc (by simp) _).drew
    clear hK K
    obtain ⟨w3, HW3⟩ := hid_ex ((w2.alloc (.cells #[.slice k1a 1 k1c, .int .u64 1, .bool false, .int .i64 0, .int .u64 0, .int .i64 0, .int .i64 0, .slice k0a 1 k0c, .int .u64 1, .bool false, .int .i64 0, .int .u64 0, .int .i64 0, .int .i64 0] 36)).alloc (.cells #[.slice (some ⟨w2.heap.size, 0, none⟩) 2 2] 25))
    have HR3 : Hid (RReads w3.drew (.slice (some ⟨w2.heap.size + 1, 0, none⟩) 1 1) alN) := by
      have h9 := one_list (two_rows w2 _ _ 99 97 HE1.out HE0.out)
      rw [World.size_alloc] at h9
      rw [HW3.out]
      exact h9.below (Below.refl _ _).drew
    have hb3 : Below w2.heap.size w2 w3 := by rw [HW3.out]; exact ((Below.refl w2.heap.size w2).alloc (Nat.le_refl _) _).alloc (by simp) _
    have HB3 : Hid _ := hb3
    have hsz3 : w3.heap.size = w2.heap.size + 2 := by rw [HW3.out]; simp
    rw [← HW3.out] at hHeld ⊢
    refine wpAnyH_ready (rs := [8]) (by kernel_rfl) (by simp) ?_
    refine AllReadyH.cons (o := _) rfl (fun K hK => ?_) AllReadyH.nil
    go_simp
    refine (new_any _ alN _ HR3.out (by decide) alN_len alN_key).mono ?_
    rintro e w4 ⟨hb4, ⟨hne, rfl⟩ | ⟨hz, _⟩⟩
    · have hB4 : Below w2.heap.size w2 w4 := (HB3.out.drew).trans (hb4.mono (by show w2.heap.size ≤ w3.heap.size; omega))
      rw [alN_bad]
      go_simp
      refine hK.out _ _ ?_ (fun hHeld => ?_)
      · exact hB4
      clear hK K
      refine wpAnyH_take (i := 9) (v := .tuple #[.pointer none, .int .i64 50]) rfl (by kernel_rfl) (by kernel_rfl) (by kernel_rfl) (fun _ _ _ h => h) (Or.inl ⟨by rfl, ?_⟩) (by assumption) ?_
      · (intro w1 hSw; (try dsimp only at hSw); go_simp)
      simp only [List.getElem_toArray, List.getElem_cons_succ, List.getElem_cons_zero, Act.put, List.setIfInBounds_toArray, List.set_cons_zero, List.set_cons_succ]
      refine wpAnyH_take (i := 10) (v := .pointer none) rfl (by kernel_rfl) (by kernel_rfl) (by kernel_rfl) (fun _ _ _ h => h) (Or.inl ⟨by rfl, ?_⟩) (by assumption) ?_
      · (intro w1 hSw; (try dsimp only at hSw); go_simp)
      simp only [List.getElem_toArray, List.getElem_cons_succ, List.getElem_cons_zero, Act.put, List.setIfInBounds_toArray, List.set_cons_zero, List.set_cons_succ]
      refine wpAnyH_take (i := 11) (v := .int .i64 50) rfl (by kernel_rfl) (by kernel_rfl) (by kernel_rfl) (fun _ _ _ h => h) (Or.inl ⟨by rfl, ?_⟩) (by assumption) ?_
      · (intro w1 hSw; (try dsimp only at hSw); go_simp)
      simp only [List.getElem_toArray, List.getElem_cons_succ, List.getElem_cons_zero, Act.put, List.setIfInBounds_toArray, List.set_cons_zero, List.set_cons_succ]
      refine wpAnyH_take (i := 12) (v := .pointer none) rfl (by kernel_rfl) (by kernel_rfl) (by kernel_rfl) (fun _ _ _ h => h) (Or.inl ⟨by rfl, ?_⟩) (by assumption) ?_
      · (intro w1 hSw; (try dsimp only at hSw); go_simp)
      simp only [List.getElem_toArray, List.getElem_cons_succ, List.getElem_cons_zero, Act.put, List.setIfInBounds_toArray, List.set_cons_zero, List.set_cons_succ]
      refine wpAnyH_take (i := 13) (v := .int .i64 50) rfl (by kernel_rfl) (by kernel_rfl) (by kernel_rfl) (fun _ _ _ h => h) (Or.inl ⟨by rfl, ?_⟩) (by assumption) ?_
      · (intro w1 hSw; (try dsimp only at hSw); go_simp)
      simp only [List.getElem_toArray, List.getElem_cons_succ, List.getElem_cons_zero, Act.put, List.setIfInBounds_toArray, List.set_cons_zero, List.set_cons_succ]
      refine wpAnyH_done (by kernel_rfl) ?_ _
      refine NoPanic.normal ?_
      have HB4 : Hid (Below w.heap.size w w4) := HB2.out.trans (hB4.mono HB2.out.size)
      have k4 : w4.cell? ⟨g, 15, none⟩ = some (.int .u64 2) := (hB4.cell (p := ⟨g, 15, none⟩) hgs).trans HK1.out
      clear hB4 hb4
      go_wp2_with fail
      go_ret
      exact ⟨rfl, HB4.out⟩
    · exact absurd hz (by rw [alN_bad]; decide)
  case steps =>
    show AllSt _ _ _ _ _ _ _ _ [0, 1, 2, 3, 4, 5, 6, 7, 8, 9, 10, 11, 12, 13, 14, 15, 16, 17, 18, 19]
    refine AllSt.cons (o := _) (ds := []) rfl (by kernel_rfl) ?_ ?_
    · intro f w1 K HB hd hK
      clear hd
      generalize hA : frF _ _ f = A at hK ⊢
      simp only [List.getElem_toArray, List.getElem_cons_zero] at hK ⊢
      clear hA
      have hb := (Below.refl w1.heap.size w1).alloc (Nat.le_refl _) (.cells #[.int .u8 97] 5)
      have hn : (w.heap.size + 1) ≤ w1.heap.size := by have := HB.out.size; omega
      have hK2 := hK.out (.slice (some ⟨w1.heap.size, 0, none⟩) 1 1) _ (hb.mono (by omega)) (Rm.of_below hb) ⟨w1.heap.size, rfl, hn, by unfold World.shape?; rw [heap_alloc_new]; rfl, by rw [cell_of_block (heap_alloc_new _ _)]; rfl⟩
      clear hK
      go_simp
      exact hK2
    refine AllSt.cons (o := _) (ds := [0]) rfl (by kernel_rfl) ?_ ?_
    · intro f w1 K HB hd hK
      have h0 : spOk (w.heap.size + 1) (.raw 97) (f 9) w1 := hd 0 (by simp)
      clear hd
      generalize hA : frF _ _ f = A at hK ⊢
      simp only [List.getElem_toArray, List.getElem_cons_succ, List.getElem_cons_zero] at hK ⊢
      have e9 : A.tmps[9]?.getD undef = f 9 := by rw [← hA]; rfl
      clear hA
      obtain ⟨g, hg, hn, hs, hc⟩ := h0
      rw [hg] at e9
      obtain ⟨w2, hr, hrm, hbl⟩ := run_mark hs
      have hrd : Reads w2 (.slice (some ⟨g, 0, none⟩) 1 1) [97] := .inr ⟨g, 0, 1, rfl, by simp, by simp, by simp [maxLen], Nat.lt_of_lt_of_le (cell_block hc).1 hrm.s, fun j hj => by (have h0 : j = 0 := (by simpa using hj)); subst h0; exact hrm.c _ _ hc⟩
      have hK2 := hK.out (.slice (some ⟨g, 0, none⟩) 1 1) w2 (hbl _ (by omega)) hrm ⟨g, rfl, hrd⟩
      clear hK hg hs hc hrm hbl hrd
      go_simp
      exact hK2
    refine AllSt.cons (o := _) (ds := []) rfl (by kernel_rfl) ?_ ?_
    · intro f w1 K HB hd hK
      clear hd
      generalize hA : frF _ _ f = A at hK ⊢
      simp only [List.getElem_toArray, List.getElem_cons_succ, List.getElem_cons_zero] at hK ⊢
      have e1 : A.tmps[1]?.getD undef = .pointer (some ⟨w.heap.size, 0, none⟩) := by rw [← hA]; rfl
      clear hA
      have hx := HC.out w1 (by rw [← hsz]; exact HB.out)
      have c0 := (cell_row hx 0 (by simp)).1
      have c1 := (cell_row hx 1 (by simp)).1
      have c2 := (cell_row hx 2 (by simp)).1
      have c3 := (cell_row hx 3 (by simp)).1
      have c4 := (cell_row hx 4 (by simp)).1
      have c5 := (cell_row hx 5 (by simp)).1
      simp only [List.getElem_toArray, List.getElem_cons_zero, List.getElem_cons_succ] at c0 c1 c2 c3 c4 c5
      have hK2 := hK.out (.agg #[.int .u64 1, .bool false, .int .i64 0, .int .u64 0, .int .i64 0, .int .i64 0]) w1 (Below.refl _ _) (Rm.of_below (Below.refl _ _)) rfl
      clear hK hx
      go_simp
      exact hK2
    refine AllSt.cons (o := _) (ds := [1, 2]) rfl (by kernel_rfl) ?_ ?_
    · intro f w1 K HB hd hK
      have h1 : spOk (w.heap.size + 1) (.byt 97) (f 10) w1 := hd 1 (by simp)
      have h2 : spOk (w.heap.size + 1) (.agg) (f 11) w1 := hd 2 (by simp)
      clear hd
      generalize hA : frF _ _ f = A at hK ⊢
      simp only [List.getElem_toArray, List.getElem_cons_succ, List.getElem_cons_zero] at hK ⊢
      have e10 : A.tmps[10]?.getD undef = f 10 := by rw [← hA]; rfl
      have e11 : A.tmps[11]?.getD undef = f 11 := by rw [← hA]; rfl
      clear hA
      obtain ⟨g, hg, hr⟩ := h1
      rw [hg] at e10 hr
      have hh : f 11 = .agg #[.int .u64 1, .bool false, .int .i64 0, .int .u64 0, .int .i64 0, .int .i64 0] := h2
      rw [hh] at e11
      have hK2 := hK.out (.agg #[.slice (some ⟨g, 0, none⟩) 1 1, .int .u64 1, .bool false, .int .i64 0, .int .u64 0, .int .i64 0, .int .i64 0]) w1 (Below.refl _ _) (Rm.of_below (Below.refl _ _)) ⟨g, rfl, hr⟩
      clear hK hg hr hh h2
      go_simp
      exact hK2
    refine AllSt.cons (o := _) (ds := []) rfl (by kernel_rfl) ?_ ?_
    · intro f w1 K HB hd hK
      clear hd
      generalize hA : frF _ _ f = A at hK ⊢
      simp only [List.getElem_toArray, List.getElem_cons_succ, List.getElem_cons_zero] at hK ⊢
      clear hA
      have hb := (Below.refl w1.heap.size w1).alloc (Nat.le_refl _) (.cells #[.int .u8 99] 5)
      have hn : (w.heap.size + 1) ≤ w1.heap.size := by have := HB.out.size; omega
      have hK2 := hK.out (.slice (some ⟨w1.heap.size, 0, none⟩) 1 1) _ (hb.mono (by omega)) (Rm.of_below hb) ⟨w1.heap.size, rfl, hn, by unfold World.shape?; rw [heap_alloc_new]; rfl, by rw [cell_of_block (heap_alloc_new _ _)]; rfl⟩
      clear hK
      go_simp
      exact hK2
    refine AllSt.cons (o := _) (ds := [4]) rfl (by kernel_rfl) ?_ ?_
    · intro f w1 K HB hd hK
      have h4 : spOk (w.heap.size + 1) (.raw 99) (f 13) w1 := hd 4 (by simp)
      clear hd
      generalize hA : frF _ _ f = A at hK ⊢
      simp only [List.getElem_toArray, List.getElem_cons_succ, List.getElem_cons_zero] at hK ⊢
      have e13 : A.tmps[13]?.getD undef = f 13 := by rw [← hA]; rfl
      clear hA
      obtain ⟨g, hg, hn, hs, hc⟩ := h4
      rw [hg] at e13
      obtain ⟨w2, hr, hrm, hbl⟩ := run_mark hs
      have hrd : Reads w2 (.slice (some ⟨g, 0, none⟩) 1 1) [99] := .inr ⟨g, 0, 1, rfl, by simp, by simp, by simp [maxLen], Nat.lt_of_lt_of_le (cell_block hc).1 hrm.s, fun j hj => by (have h0 : j = 0 := (by simpa using hj)); subst h0; exact hrm.c _ _ hc⟩
      have hK2 := hK.out (.slice (some ⟨g, 0, none⟩) 1 1) w2 (hbl _ (by omega)) hrm ⟨g, rfl, hrd⟩
      clear hK hg hs hc hrm hbl hrd
      go_simp
      exact hK2
    refine AllSt.cons (o := _) (ds := []) rfl (by kernel_rfl) ?_ ?_
    · intro f w1 K HB hd hK
      clear hd
      generalize hA : frF _ _ f = A at hK ⊢
      simp only [List.getElem_toArray, List.getElem_cons_succ, List.getElem_cons_zero] at hK ⊢
      have e1 : A.tmps[1]?.getD undef = .pointer (some ⟨w.heap.size, 0, none⟩) := by rw [← hA]; rfl
      clear hA
      have hx := HC.out w1 (by rw [← hsz]; exact HB.out)
      have c0 := (cell_row hx 0 (by simp)).1
      have c1 := (cell_row hx 1 (by simp)).1
      have c2 := (cell_row hx 2 (by simp)).1
      have c3 := (cell_row hx 3 (by simp)).1
      have c4 := (cell_row hx 4 (by simp)).1
      have c5 := (cell_row hx 5 (by simp)).1
      simp only [List.getElem_toArray, List.getElem_cons_zero, List.getElem_cons_succ] at c0 c1 c2 c3 c4 c5
      have hK2 := hK.out (.agg #[.int .u64 1, .bool false, .int .i64 0, .int .u64 0, .int .i64 0, .int .i64 0]) w1 (Below.refl _ _) (Rm.of_below (Below.refl _ _)) rfl
      clear hK hx
      go_simp
      exact hK2
    refine AllSt.cons (o := _) (ds := [5, 6]) rfl (by kernel_rfl) ?_ ?_
    · intro f w1 K HB hd hK
      have h5 : spOk (w.heap.size + 1) (.byt 99) (f 14) w1 := hd 5 (by simp)
      have h6 : spOk (w.heap.size + 1) (.agg) (f 15) w1 := hd 6 (by simp)
      clear hd
      generalize hA : frF _ _ f = A at hK ⊢
      simp only [List.getElem_toArray, List.getElem_cons_succ, List.getElem_cons_zero] at hK ⊢
      have e14 : A.tmps[14]?.getD undef = f 14 := by rw [← hA]; rfl
      have e15 : A.tmps[15]?.getD undef = f 15 := by rw [← hA]; rfl
      clear hA
      obtain ⟨g, hg, hr⟩ := h5
      rw [hg] at e14 hr
      have hh : f 15 = .agg #[.int .u64 1, .bool false, .int .i64 0, .int .u64 0, .int .i64 0, .int .i64 0] := h6
      rw [hh] at e15
      have hK2 := hK.out (.agg #[.slice (some ⟨g, 0, none⟩) 1 1, .int .u64 1, .bool false, .int .i64 0, .int .u64 0, .int .i64 0, .int .i64 0]) w1 (Below.refl _ _) (Rm.of_below (Below.refl _ _)) ⟨g, rfl, hr⟩
      clear hK hg hr hh h6
      go_simp
      exact hK2
    refine AllSt.cons (o := _) (ds := [3, 7]) rfl (by kernel_rfl) ?_ ?_
    · intro f w1 K HB hd hK
      have h3 : spOk (w.heap.size + 1) (.ent 97) (f 12) w1 := hd 3 (by simp)
      have h7 : spOk (w.heap.size + 1) (.ent 99) (f 16) w1 := hd 7 (by simp)
      clear hd
      generalize hA : frF _ _ f = A at hK ⊢
      simp only [List.getElem_toArray, List.getElem_cons_succ, List.getElem_cons_zero] at hK ⊢
      have e12 : A.tmps[12]?.getD undef = f 12 := by rw [← hA]; rfl
      have e16 : A.tmps[16]?.getD undef = f 16 := by rw [← hA]; rfl
      clear hA
      obtain ⟨g, hg, hr⟩ := h3
      obtain ⟨g', hg', hr'⟩ := h7
      rw [hg] at e12
      rw [hg'] at e16
      have hb := (Below.refl w1.heap.size w1).alloc (Nat.le_refl _) (.cells #[.slice (some ⟨g, 0, none⟩) 1 1, .int .u64 1, .bool false, .int .i64 0, .int .u64 0, .int .i64 0, .int .i64 0, .slice (some ⟨g', 0, none⟩) 1 1, .int .u64 1, .bool false, .int .i64 0, .int .u64 0, .int .i64 0, .int .i64 0] 36)
      have hn : (w.heap.size + 1) ≤ w1.heap.size := by have := HB.out.size; omega
      have hE := two_rows w1 _ _ 97 99 hr hr'
      have hK2 := hK.out (.slice (some ⟨w1.heap.size, 0, none⟩) 2 2) _ (hb.mono (by omega)) (Rm.of_below hb) ⟨w1.heap.size, rfl, hE⟩
      clear hK hg hg' hr hr' hb hE
      go_simp
      exact hK2
    refine AllSt.cons (o := _) (ds := []) rfl (by kernel_rfl) ?_ ?_
    · intro f w1 K HB hd hK
      clear hd
      generalize hA : frF _ _ f = A at hK ⊢
      simp only [List.getElem_toArray, List.getElem_cons_succ, List.getElem_cons_zero] at hK ⊢
      clear hA
      have hb := (Below.refl w1.heap.size w1).alloc (Nat.le_refl _) (.cells #[.int .u8 98] 5)
      have hn : (w.heap.size + 1) ≤ w1.heap.size := by have := HB.out.size; omega
      have hK2 := hK.out (.slice (some ⟨w1.heap.size, 0, none⟩) 1 1) _ (hb.mono (by omega)) (Rm.of_below hb) ⟨w1.heap.size, rfl, hn, by unfold World.shape?; rw [heap_alloc_new]; rfl, by rw [cell_of_block (heap_alloc_new _ _)]; rfl⟩
      clear hK
      go_simp
      exact hK2
    refine AllSt.cons (o := _) (ds := [9]) rfl (by kernel_rfl) ?_ ?_
    · intro f w1 K HB hd hK
      have h9 : spOk (w.heap.size + 1) (.raw 98) (f 18) w1 := hd 9 (by simp)
      clear hd
      generalize hA : frF _ _ f = A at hK ⊢
      simp only [List.getElem_toArray, List.getElem_cons_succ, List.getElem_cons_zero] at hK ⊢
      have e18 : A.tmps[18]?.getD undef = f 18 := by rw [← hA]; rfl
      clear hA
      obtain ⟨g, hg, hn, hs, hc⟩ := h9
      rw [hg] at e18
      obtain ⟨w2, hr, hrm, hbl⟩ := run_mark hs
      have hrd : Reads w2 (.slice (some ⟨g, 0, none⟩) 1 1) [98] := .inr ⟨g, 0, 1, rfl, by simp, by simp, by simp [maxLen], Nat.lt_of_lt_of_le (cell_block hc).1 hrm.s, fun j hj => by (have h0 : j = 0 := (by simpa using hj)); subst h0; exact hrm.c _ _ hc⟩
      have hK2 := hK.out (.slice (some ⟨g, 0, none⟩) 1 1) w2 (hbl _ (by omega)) hrm ⟨g, rfl, hrd⟩
      clear hK hg hs hc hrm hbl hrd
      go_simp
      exact hK2
    refine AllSt.cons (o := _) (ds := []) rfl (by kernel_rfl) ?_ ?_
    · intro f w1 K HB hd hK
      clear hd
      generalize hA : frF _ _ f = A at hK ⊢
      simp only [List.getElem_toArray, List.getElem_cons_succ, List.getElem_cons_zero] at hK ⊢
      have e1 : A.tmps[1]?.getD undef = .pointer (some ⟨w.heap.size, 0, none⟩) := by rw [← hA]; rfl
      clear hA
      have hx := HC.out w1 (by rw [← hsz]; exact HB.out)
      have c0 := (cell_row hx 0 (by simp)).1
      have c1 := (cell_row hx 1 (by simp)).1
      have c2 := (cell_row hx 2 (by simp)).1
      have c3 := (cell_row hx 3 (by simp)).1
      have c4 := (cell_row hx 4 (by simp)).1
      have c5 := (cell_row hx 5 (by simp)).1
      simp only [List.getElem_toArray, List.getElem_cons_zero, List.getElem_cons_succ] at c0 c1 c2 c3 c4 c5
      have hK2 := hK.out (.agg #[.int .u64 1, .bool false, .int .i64 0, .int .u64 0, .int .i64 0, .int .i64 0]) w1 (Below.refl _ _) (Rm.of_below (Below.refl _ _)) rfl
      clear hK hx
      go_simp
      exact hK2
    refine AllSt.cons (o := _) (ds := [10, 11]) rfl (by kernel_rfl) ?_ ?_
    · intro f w1 K HB hd hK
      have h10 : spOk (w.heap.size + 1) (.byt 98) (f 19) w1 := hd 10 (by simp)
      have h11 : spOk (w.heap.size + 1) (.agg) (f 20) w1 := hd 11 (by simp)
      clear hd
      generalize hA : frF _ _ f = A at hK ⊢
      simp only [List.getElem_toArray, List.getElem_cons_succ, List.getElem_cons_zero] at hK ⊢
      have e19 : A.tmps[19]?.getD undef = f 19 := by rw [← hA]; rfl
      have e20 : A.tmps[20]?.getD undef = f 20 := by rw [← hA]; rfl
      clear hA
      obtain ⟨g, hg, hr⟩ := h10
      rw [hg] at e19 hr
      have hh : f 20 = .agg #[.int .u64 1, .bool false, .int .i64 0, .int .u64 0, .int .i64 0, .int .i64 0] := h11
      rw [hh] at e20
      have hK2 := hK.out (.agg #[.slice (some ⟨g, 0, none⟩) 1 1, .int .u64 1, .bool false, .int .i64 0, .int .u64 0, .int .i64 0, .int .i64 0]) w1 (Below.refl _ _) (Rm.of_below (Below.refl _ _)) ⟨g, rfl, hr⟩
      clear hK hg hr hh h11
      go_simp
      exact hK2
    refine AllSt.cons (o := _) (ds := []) rfl (by kernel_rfl) ?_ ?_
    · intro f w1 K HB hd hK
      clear hd
      generalize hA : frF _ _ f = A at hK ⊢
      simp only [List.getElem_toArray, List.getElem_cons_succ, List.getElem_cons_zero] at hK ⊢
      clear hA
      have hb := (Below.refl w1.heap.size w1).alloc (Nat.le_refl _) (.cells #[.int .u8 99] 5)
      have hn : (w.heap.size + 1) ≤ w1.heap.size := by have := HB.out.size; omega
      have hK2 := hK.out (.slice (some ⟨w1.heap.size, 0, none⟩) 1 1) _ (hb.mono (by omega)) (Rm.of_below hb) ⟨w1.heap.size, rfl, hn, by unfold World.shape?; rw [heap_alloc_new]; rfl, by rw [cell_of_block (heap_alloc_new _ _)]; rfl⟩
      clear hK
      go_simp
      exact hK2
    refine AllSt.cons (o := _) (ds := [13]) rfl (by kernel_rfl) ?_ ?_
    · intro f w1 K HB hd hK
      have h13 : spOk (w.heap.size + 1) (.raw 99) (f 22) w1 := hd 13 (by simp)
      clear hd
      generalize hA : frF _ _ f = A at hK ⊢
      simp only [List.getElem_toArray, List.getElem_cons_succ, List.getElem_cons_zero] at hK ⊢
      have e22 : A.tmps[22]?.getD undef = f 22 := by rw [← hA]; rfl
      clear hA
      obtain ⟨g, hg, hn, hs, hc⟩ := h13
      rw [hg] at e22
      obtain ⟨w2, hr, hrm, hbl⟩ := run_mark hs
      have hrd : Reads w2 (.slice (some ⟨g, 0, none⟩) 1 1) [99] := .inr ⟨g, 0, 1, rfl, by simp, by simp, by simp [maxLen], Nat.lt_of_lt_of_le (cell_block hc).1 hrm.s, fun j hj => by (have h0 : j = 0 := (by simpa using hj)); subst h0; exact hrm.c _ _ hc⟩
      have hK2 := hK.out (.slice (some ⟨g, 0, none⟩) 1 1) w2 (hbl _ (by omega)) hrm ⟨g, rfl, hrd⟩
      clear hK hg hs hc hrm hbl hrd
      go_simp
      exact hK2
    refine AllSt.cons (o := _) (ds := []) rfl (by kernel_rfl) ?_ ?_
    · intro f w1 K HB hd hK
      clear hd
      generalize hA : frF _ _ f = A at hK ⊢
      simp only [List.getElem_toArray, List.getElem_cons_succ, List.getElem_cons_zero] at hK ⊢
      have e1 : A.tmps[1]?.getD undef = .pointer (some ⟨w.heap.size, 0, none⟩) := by rw [← hA]; rfl
      clear hA
      have hx := HC.out w1 (by rw [← hsz]; exact HB.out)
      have c0 := (cell_row hx 0 (by simp)).1
      have c1 := (cell_row hx 1 (by simp)).1
      have c2 := (cell_row hx 2 (by simp)).1
      have c3 := (cell_row hx 3 (by simp)).1
      have c4 := (cell_row hx 4 (by simp)).1
      have c5 := (cell_row hx 5 (by simp)).1
      simp only [List.getElem_toArray, List.getElem_cons_zero, List.getElem_cons_succ] at c0 c1 c2 c3 c4 c5
      have hK2 := hK.out (.agg #[.int .u64 1, .bool false, .int .i64 0, .int .u64 0, .int .i64 0, .int .i64 0]) w1 (Below.refl _ _) (Rm.of_below (Below.refl _ _)) rfl
      clear hK hx
      go_simp
      exact hK2
    refine AllSt.cons (o := _) (ds := [14, 15]) rfl (by kernel_rfl) ?_ ?_
    · intro f w1 K HB hd hK
      have h14 : spOk (w.heap.size + 1) (.byt 99) (f 23) w1 := hd 14 (by simp)
      have h15 : spOk (w.heap.size + 1) (.agg) (f 24) w1 := hd 15 (by simp)
      clear hd
      generalize hA : frF _ _ f = A at hK ⊢
      simp only [List.getElem_toArray, List.getElem_cons_succ, List.getElem_cons_zero] at hK ⊢
      have e23 : A.tmps[23]?.getD undef = f 23 := by rw [← hA]; rfl
      have e24 : A.tmps[24]?.getD undef = f 24 := by rw [← hA]; rfl
      clear hA
      obtain ⟨g, hg, hr⟩ := h14
      rw [hg] at e23 hr
      have hh : f 24 = .agg #[.int .u64 1, .bool false, .int .i64 0, .int .u64 0, .int .i64 0, .int .i64 0] := h15
      rw [hh] at e24
      have hK2 := hK.out (.agg #[.slice (some ⟨g, 0, none⟩) 1 1, .int .u64 1, .bool false, .int .i64 0, .int .u64 0, .int .i64 0, .int .i64 0]) w1 (Below.refl _ _) (Rm.of_below (Below.refl _ _)) ⟨g, rfl, hr⟩
      clear hK hg hr hh h15
      go_simp
      exact hK2
    refine AllSt.cons (o := _) (ds := [12, 16]) rfl (by kernel_rfl) ?_ ?_
    · intro f w1 K HB hd hK
      have h12 : spOk (w.heap.size + 1) (.ent 98) (f 21) w1 := hd 12 (by simp)
      have h16 : spOk (w.heap.size + 1) (.ent 99) (f 25) w1 := hd 16 (by simp)
      clear hd
      generalize hA : frF _ _ f = A at hK ⊢
      simp only [List.getElem_toArray, List.getElem_cons_succ, List.getElem_cons_zero] at hK ⊢
      have e21 : A.tmps[21]?.getD undef = f 21 := by rw [← hA]; rfl
      have e25 : A.tmps[25]?.getD undef = f 25 := by rw [← hA]; rfl
      clear hA
      obtain ⟨g, hg, hr⟩ := h12
      obtain ⟨g', hg', hr'⟩ := h16
      rw [hg] at e21
      rw [hg'] at e25
      have hb := (Below.refl w1.heap.size w1).alloc (Nat.le_refl _) (.cells #[.slice (some ⟨g, 0, none⟩) 1 1, .int .u64 1, .bool false, .int .i64 0, .int .u64 0, .int .i64 0, .int .i64 0, .slice (some ⟨g', 0, none⟩) 1 1, .int .u64 1, .bool false, .int .i64 0, .int .u64 0, .int .i64 0, .int .i64 0] 36)
      have hn : (w.heap.size + 1) ≤ w1.heap.size := by have := HB.out.size; omega
      have hE := two_rows w1 _ _ 98 99 hr hr'
      have hK2 := hK.out (.slice (some ⟨w1.heap.size, 0, none⟩) 2 2) _ (hb.mono (by omega)) (Rm.of_below hb) ⟨w1.heap.size, rfl, hE⟩
      clear hK hg hg' hr hr' hb hE
      go_simp
      exact hK2
    refine AllSt.cons (o := _) (ds := [8, 0, 1, 2, 3, 4, 5, 6, 7, 8]) rfl (by kernel_rfl) ?_ ?_
    · intro f w1 K HB hd hK
      have h8 : spOk (w.heap.size + 1) (.row 97 99) (f 17) w1 := hd 8 (by simp)
      clear hd
      generalize hA : frF _ _ f = A at hK ⊢
      simp only [List.getElem_toArray, List.getElem_cons_succ, List.getElem_cons_zero] at hK ⊢
      have e17 : A.tmps[17]?.getD undef = f 17 := by rw [← hA]; rfl
      clear hA
      obtain ⟨g, hg, hr⟩ := h8
      rw [hg] at hr
      rw [hg] at e17
      have hK2 := hK.out (.slice (some ⟨g, 0, none⟩) 2 2) w1 (Below.refl _ _) (Rm.of_below (Below.refl _ _)) ⟨g, rfl, hr⟩
      clear hK hg hr
      go_simp
      exact hK2
    refine AllSt.cons (o := _) (ds := [17, 18, 0, 1, 2, 3, 4, 5, 6, 7, 8, 9, 10, 11, 12, 13, 14, 15, 16, 17, 18]) rfl (by kernel_rfl) ?_ ?_
    · intro f w1 K HB hd hK
      have h17 : spOk (w.heap.size + 1) (.row 98 99) (f 26) w1 := hd 17 (by simp)
      clear hd
      generalize hA : frF _ _ f = A at hK ⊢
      simp only [List.getElem_toArray, List.getElem_cons_succ, List.getElem_cons_zero] at hK ⊢
      have e26 : A.tmps[26]?.getD undef = f 26 := by rw [← hA]; rfl
      clear hA
      obtain ⟨g, hg, hr⟩ := h17
      rw [hg] at hr
      rw [hg] at e26
      have hK2 := hK.out (.slice (some ⟨g, 0, none⟩) 2 2) w1 (Below.refl _ _) (Rm.of_below (Below.refl _ _)) ⟨g, rfl, hr⟩
      clear hK hg hr
      go_simp
      exact hK2
    exact AllSt.nil
end Go.Proofs.Ytdamlnpfpfpeeaa
