/- SFC SFW MS1 MS2 ME1x, joined. -/
import Derived.Test.YtilbffgpniomcaaGreatDoorQQ15
import Derived.Test.YtilbffgpniomcaaGreatDoorQQ18
import Derived.Test.YtilbffgpniomcaaGreatDoorQQ20
import Derived.Test.YtilbffgpniomcaaGreatDoorQQ21
/- A file system: Crash. -/
namespace Go.Proofs.YtilbffgpniomcaaGreatDoor
open Go.RowKit Go.Maps Go.Sort

/-- Numbers that a slice reads. -/
def KReads (w : World) (v : Value) (ks : List Int) : Prop := ∃ a cap, v = .slice a ks.length cap ∧ ks.length ≤ maxLen ∧ (ks = [] ∨ ∃ b off, a = some ⟨b, off, none⟩ ∧ b < w.heap.size ∧ ∀ j (h : j < ks.length), w.cell? ⟨b, off + j, none⟩ = some (.int .i64 ks[j]))
theorem KReads.keepB {w w' : World} {v : Value} {l : List Int} (h : KReads w v l) (hk : ∀ k, v.ownBlock = some k → k < w.heap.size → w'.heap[k]? = w.heap[k]?) (hs : w.heap.size ≤ w'.heap.size) : KReads w' v l := by
  obtain ⟨a, cap, rfl, h1, h2⟩ := h
  refine ⟨a, cap, rfl, h1, ?_⟩
  rcases h2 with h2 | ⟨b, off, rfl, h3, h4⟩
  · exact .inl h2
  · exact .inr ⟨b, off, rfl, by omega, fun j hj => (World.cell?_of_block (hk b rfl h3)).trans (h4 j hj)⟩
theorem wpList_clear_sf {w : World} {ops : Array Oper} {rest : List Oper} {o : Oper} {a : Act} {Q : Exit → Act → World → Prop} (hg : o.guard = none) (m : Operand) (hop : o.op = Op.call { callee := Callee.builtin Builtin.clear, args := #[m], argTypes := #[73] }) (b : Nat) (bl : Nat → Nat) (l : List (List UInt8 × Nat))
    (hm : a.eval m = .map (some b)) (h : SfMap w b bl l) (hK : ∀ w', SfMap w' b bl [] → w.mapTurned w' b → wpList Tryz.prog ops Q rest (a.put o.dst (.tuple #[])) w') : wpList Tryz.prog ops Q (o :: rest) a w := by
  refine wpList_plain hg fun K' hK' => ?_
  obtain ⟨w', hrun, r1, r2⟩ := h.clear o.type
  unfold Oper.wp
  simp [execOp, hop, resolve, invoke, builtin, hm, hrun, Result.andThen]
  exact hK' _ _ (hK w' r1 r2)
theorem sfSettle_min (s : SfS) (k : Nat) : sfSettle s k = sfSettle s (min k s.pend.length) := by
  unfold sfSettle
  rcases Nat.le_total k s.pend.length with h | h
  · rw [Nat.min_eq_left h]
  · rw [Nat.min_eq_right h, List.take_of_length_le h, List.take_length]
theorem row_str {w : World} {base n : Nat} {a : Option Addr} {cap : Nat} {l : List (List UInt8)} (h : w.ownsRow base 9 1 (.slice a n cap) l.length (l.map sv)) {j : Nat} (hj : j < l.length) : ∃ b, a = some ⟨b, 0, none⟩ ∧ w.cell? ⟨b, j, none⟩ = some (.string ⟨(l[j]).toArray⟩) := by
  have hc := @World.ownsRow.cells w base 9 1 (.slice a n cap) l.length (l.map sv) h
  rcases h.2 with ⟨_, h0⟩ | ⟨g, c, cur, hv, _⟩
  · omega
  · simp at hv
    obtain ⟨rfl, _⟩ := hv
    refine ⟨g, rfl, ?_⟩
    have := hc (g := g) rfl j (sv l[j]) (by simp [hj])
    have ea : (⟨g, 0, none⟩ : Addr).add j = ⟨g, j, none⟩ := by simp [Addr.add]; omega
    rw [ea] at this
    exact this
theorem row_form {w : World} {base n : Nat} {e : TypeId} {v : Value} {xs : List Value} (h : w.ownsRow base e 1 v n xs) : ∃ a c, v = .slice a n c := by
  rcases h.2 with ⟨h1, h2⟩ | ⟨g, cap, cur, hv, _⟩
  · exact ⟨none, 0, by rw [h1, h2]⟩
  · exact ⟨_, cap, hv⟩
theorem row_str' {w : World} {base n N : Nat} {a : Option Addr} {cap : Nat} {l : List (List UInt8 × Nat)} (h : w.ownsRow base 9 1 (.slice a n cap) N (l.map fun p => sv p.1)) (hN : N = l.length) {j : Nat} (hj : j < N) : ∃ b, a = some ⟨b, 0, none⟩ ∧ w.cell? ⟨b, j, none⟩ = some (.string ⟨((l[j]'(hN ▸ hj)).1).toArray⟩) := by
  subst hN
  have e : (l.map fun p => sv p.1) = (l.map (·.1)).map sv := by rw [List.map_map]; rfl
  have el : (l.map (·.1)).length = l.length := List.length_map ..
  rw [e, ← el] at h
  obtain ⟨b, hb, hc⟩ := row_str h (j := j) (by rw [el]; exact hj)
  exact ⟨b, hb, by rw [hc]; simp⟩
theorem row_keepB {w w' : World} {base n : Nat} {e : TypeId} {v : Value} {xs : List Value} (h : w.ownsRow base e 1 v n xs) (hk : ∀ k, base ≤ k → k < w.heap.size → w'.heap[k]? = w.heap[k]?) : w'.ownsRow base e 1 v n xs := by
  have hlt := World.ownsRow.lt h
  obtain ⟨h1, h2⟩ := h
  refine ⟨h1, ?_⟩
  rcases h2 with h2 | ⟨g, cap, cur, rfl, hg, hw, r⟩
  · exact .inl h2
  · exact .inr ⟨g, cap, cur, rfl, hg, (hk g hg (hlt g rfl).2).trans hw, r⟩
theorem drop_head {α : Type} {l : List α} {j : Nat} (hj : j < l.length) : l.drop j = l[j] :: l.drop (j + 1) := (List.getElem_cons_drop hj).symm
theorem headD_drop (ks : List Int) (j : Nat) : (ks.drop j).headD 0 = if h : j < ks.length then ks[j] else 0 := by
  split
  · rename_i h; rw [drop_head h]; rfl
  · rw [List.drop_eq_nil_of_le (by omega)]; rfl
theorem sfCuts_step {dir : List (List UInt8 × Nat)} {ks : List Int} {fls : List (List UInt8 × Nat)} {j : Nat} (hj : j < dir.length) : sfCuts (dir.drop j) (ks.drop j) fls = sfCuts (dir.drop (j + 1)) (ks.drop (j + 1)) (fls.set dir[j].2 (sfCut (fls.getD dir[j].2 ([], 0)) ((ks.drop j).headD 0))) := by
  rw [drop_head hj, sfCuts, List.tail_drop]
def sfFlOk (fls : List (List UInt8 × Nat)) : Prop := ∀ (i : Nat) (f : List UInt8 × Nat), fls[i]? = some f → f.2 ≤ f.1.length ∧ f.1.length ≤ 1048576
theorem sfFlOk.cut {fls : List (List UInt8 × Nat)} (h : sfFlOk fls) (i : Nat) (k : Int) : sfFlOk (fls.set i (sfCut (fls.getD i ([], 0)) k)) := by
  intro j f hj
  by_cases e : i = j
  · subst e
    rcases Nat.lt_or_ge i fls.length with hi | hi
    · rw [List.getElem?_set_self hi] at hj
      obtain rfl : sfCut (fls.getD i ([], 0)) k = f := by simpa using hj
      have hg : fls[i]? = some (fls.getD i ([], 0)) := by rw [List.getD_eq_getElem?_getD, List.getElem?_eq_getElem hi]; rfl
      have := h i _ hg
      unfold sfCut
      simp only [List.length_take]
      omega
    · rw [List.getElem?_eq_none (by simpa using hi)] at hj; cases hj
  · rw [List.getElem?_set_ne e] at hj; exact h j f hj
theorem sfIns_mem {x p : List UInt8 × Nat} : ∀ {l : List (List UInt8 × Nat)}, p ∈ sfIns x l → p = x ∨ p ∈ l
  | [], h => by simp [sfIns] at h; exact .inl h
  | y :: r, h => by
    unfold sfIns at h
    split at h
    · rcases List.mem_cons.1 h with h | h
      · exact .inl h
      · exact .inr h
    · rcases List.mem_cons.1 h with h | h
      · exact .inr (by simp [h])
      · rcases sfIns_mem h with h | h
        · exact .inl h
        · exact .inr (by simp [h])
theorem sfDel_mem {s : List UInt8} {p : List UInt8 × Nat} {l : List (List UInt8 × Nat)} (h : p ∈ sfDel s l) : p ∈ l := (List.mem_filter.1 h).1
theorem sfDo_ok {N : Nat} {l : List (List UInt8 × Nat)} {a : SfA} (hl : ∀ p ∈ l, p.2 < N ∧ p.1.length ≤ 32) (ha : (∀ i, a.file = some i → i < N) ∧ a.gone.length ≤ 32 ∧ a.name.length ≤ 32) : ∀ p ∈ sfDo l a, p.2 < N ∧ p.1.length ≤ 32 := by
  intro p hp
  unfold sfDo at hp
  split at hp
  · exact hl p (sfDel_mem hp)
  · rename_i i hf
    rcases sfIns_mem hp with rfl | hp
    · exact ⟨ha.1 i hf, ha.2.2⟩
    · exact hl p (sfDel_mem (sfDel_mem hp))
theorem sfDo_fold_ok {N : Nat} : ∀ {P : List SfA} {l : List (List UInt8 × Nat)}, (∀ p ∈ l, p.2 < N ∧ p.1.length ≤ 32) → (∀ a ∈ P, (∀ i, a.file = some i → i < N) ∧ a.gone.length ≤ 32 ∧ a.name.length ≤ 32) → ∀ p ∈ P.foldl sfDo l, p.2 < N ∧ p.1.length ≤ 32
  | [], _, hl, _ => hl
  | a :: P, l, hl, hP => by
    rw [List.foldl_cons]
    exact sfDo_fold_ok (sfDo_ok hl (hP a (by simp))) (fun b hb => hP b (by simp [hb]))
set_option maxRecDepth 100000 in
set_option maxHeartbeats 8000000 in
theorem crash_any {w : World} {O : Nat → Prop} {g m1 m2 : Nat} {pv : Value} {bl : Nat → Nat} {vs : Nat → Value} {s : SfS} (h : FsAt w O g m1 m2 pv bl vs s) (hw : SfWf s) (n : Int) (kv : Value) (ks : List Int) (hK : ∀ w', Onl O w w' → KReads w' kv ks) :
    Calls Tryz.prog 27 #[.pointer (some ⟨g, 0, none⟩), .int .i64 n, kv] w fun e w' => e = .returned (.int .i64 0) ∧ FsTo w O g m1 m2 (sfCrash s n ks) w' := by
  have HF : Hid (FsAt w O g m1 m2 pv bl vs s) := h
  have HW : Hid (SfWf s) := hw
  have HKR : Hid (∀ w', Onl O w w' → KReads w' kv ks) := hK
  obtain ⟨ka, kc, rfl, hkl, -⟩ := hK w (Onl.refl _ _)
  have hkl' : (ks.length : Int) ≤ 9223372036854775807 := by simp only [maxLen] at hkl; omega
  clear hK
  have c0 := h.c0
  have h1 := hw.r1
  obtain ⟨pa, pc, hpv, -⟩ := h.hp.form
  have c3 := h.c3
  rw [hpv] at c3
  have hmx : ∀ ts t w', (Builtin.max_ ts t #[.int .i64 n, .int .i64 0]).run Tryz.prog w' = .ok (.int .i64 (((max n 0).toNat : Nat) : Int)) w' := by
    intro ts t w'
    simp only [Builtin.max_]
    by_cases hk : n < 0
    · have : (max n 0).toNat = 0 := by omega
      simp [Builtin.max2, this]; omega
    · have : (((max n 0).toNat : Nat) : Int) = n := by omega
      rw [this]
      simp [Builtin.max2]; omega
  have hmn : ∀ ts t w', (Builtin.min_ ts t #[.int .i64 (((max n 0).toNat : Nat) : Int), .int .i64 (s.pend.length : Int)]).run Tryz.prog w' = .ok (.int .i64 ((min (max n 0).toNat s.pend.length : Nat) : Int)) w' := by
    intro ts t w'
    simp [Builtin.min_, Builtin.min2]
    omega
  unfold sfCrash
  generalize hq : (max n 0).toNat = K at *
  clear hq
  rw [sfSettle_min]
  have hst := settle_any h hw (min K s.pend.length) (Nat.min_le_right _ _)
  have hkp : min K s.pend.length ≤ s.pend.length := Nat.min_le_right _ _
  generalize hq : min K s.pend.length = k at *
  clear hq
  obtain ⟨S1, HS1⟩ := hid_ex (sfSettle s k)
  rw [← HS1.out] at hst ⊢
  clear h hw hpv
  go_enter Tryz.func27, Tryz.ntmps27
  go_wp2_with (go_at_call 30; refine (made_cell _ c0 h1).mono ?_; rintro e w' ⟨rfl, hw'⟩; subst w')
  refine hst.mono ?_
  rintro e w2 ⟨rfl, hf2, ho2⟩
  have HF2 : Hid (FsAt w2 O g m1 m2 (.slice none 0 0) bl vs S1) := hf2
  have HO2 : Hid (Onl O w w2) := ho2
  have d1 := HF2.out.c1
  have hm1 := HF2.out.h1
  clear hf2 ho2 hst c3 hmx hmn c0
  go_wp2_with (refine wpList_clear_sf rfl _ rfl m1 bl S1.dir rfl hm1 ?_; intro w3 hm3 hturn3)
  go_frame
  have HO3 : Hid (Onl O w w3) := HO2.out.then ((turned_only hturn3).mono fun k e => e ▸ HF2.out.o1)
  have HF3 : Hid (FsAt w3 O g m1 m2 (.slice none 0 0) bl vs { S1 with dir := [] }) := HF2.out.set1 hturn3.grown.size (fun k hk hne => hturn3.grown.block k (HF2.out.lt k hk) (by simpa using hne)) hm3
  have HS1O : Hid (S1.old.length ≤ 256) := by
    show S1.old.length ≤ 256
    rw [HS1.out]; exact HW.out.ln k
  clear hm3 hturn3 hm1 d1 HF2 HO2
  have d1 := HF3.out.c1
  have d2 := HF3.out.c2
  have HCP : Hid (Calls Tryz.prog 60 #[.map (some m1), .map (some m2)] w3.drew fun e w' => e = .returned (.tuple #[]) ∧ FsAt w' O g m1 m2 (.slice none 0 0) bl vs { S1 with dir := S1.old } ∧ Onl O w3 w') := by
    have q1 : SfMap w3.drew m1 bl [] := HF3.out.h1
    have q2 : SfMap w3.drew m2 bl S1.old := HF3.out.h2
    refine (copyM_any q1 q2 HF3.out.ne (by have := HS1O.out; simp only [maxLen]; omega)).mono ?_
    rintro e w' ⟨he, h1, h2⟩
    exact ⟨he, FsAt.set1 (s := { S1 with dir := [] }) HF3.out h2.size (fun k hk hne => h2.block k (HF3.out.lt k hk) hne) h1, ⟨h2.os, h2.tape, h2.output, h2.size, fun k hk ho => h2.block k hk (fun e => ho (e ▸ HF3.out.o1))⟩⟩
  refine wp_region_noPanic ?_
  refine wp_region_S 8 (fun _ => True) (fun w' => w'.cell? ⟨g, 1, none⟩ = some (.map (some m1)) ∧ w'.cell? ⟨g, 2, none⟩ = some (.map (some m2))) (by kernel_rfl) ?_ ?_ (fun hHeld => ?_)
  · trivial
  · exact ⟨d1, d2⟩
  refine wpAnyS_take (i := 0) (v := .pointer (some ⟨g, 0, none⟩)) _ rfl (by kernel_rfl) (by kernel_rfl) (by kernel_rfl) (by kernel_rfl) (by kernel_rfl) rfl (fun _ _ _ h => h) (Or.inl ⟨by rfl, ?_⟩) hHeld (fun hHeld => ?_)
  · (intro w1 hSw; have hSw := hSw.1; (try dsimp only at hSw); go_simp)
  simp only [List.getElem_toArray, List.getElem_cons_zero, Act.put, List.setIfInBounds_toArray, List.set_cons_zero, List.set_cons_succ]
  refine wpAnyS_take (i := 1) (v := .pointer (some ⟨g, 0, none⟩)) _ rfl (by kernel_rfl) (by kernel_rfl) (by kernel_rfl) (by kernel_rfl) (by kernel_rfl) rfl (fun _ _ _ h => h) (Or.inl ⟨by rfl, ?_⟩) hHeld (fun hHeld => ?_)
  · (intro w1 hSw; have hSw := hSw.1; (try dsimp only at hSw); go_simp)
  simp only [List.getElem_toArray, List.getElem_cons_succ, List.getElem_cons_zero, Act.put, List.setIfInBounds_toArray, List.set_cons_zero, List.set_cons_succ]
  refine wpAnyS_take (i := 2) (v := .pointer (some ⟨g, 1, none⟩)) _ rfl (by kernel_rfl) (by kernel_rfl) (by kernel_rfl) (by kernel_rfl) (by kernel_rfl) rfl (fun _ _ _ h => h) (Or.inl ⟨by rfl, ?_⟩) hHeld (fun hHeld => ?_)
  · (intro w1 hSw; have hSw := hSw.1; (try dsimp only at hSw); go_simp)
  simp only [List.getElem_toArray, List.getElem_cons_succ, List.getElem_cons_zero, Act.put, List.setIfInBounds_toArray, List.set_cons_zero, List.set_cons_succ]
  refine wpAnyS_take (i := 3) (v := .map (some m1)) true rfl (by kernel_rfl) (by kernel_rfl) (by kernel_rfl) (by kernel_rfl) (by kernel_rfl) (by kernel_rfl) (fun _ _ _ h => h) (Or.inl ⟨by rfl, ?_⟩) hHeld (fun hHeld => ?_)
  · (intro w1 hSw; have hSw2 := hSw.2 rfl; have hSw := hSw.1; (try dsimp only at hSw hSw2); go_simp)
  simp only [List.getElem_toArray, List.getElem_cons_succ, List.getElem_cons_zero, Act.put, List.setIfInBounds_toArray, List.set_cons_zero, List.set_cons_succ]
  refine wpAnyS_take (i := 4) (v := .pointer (some ⟨g, 0, none⟩)) _ rfl (by kernel_rfl) (by kernel_rfl) (by kernel_rfl) (by kernel_rfl) (by kernel_rfl) rfl (fun _ _ _ h => h) (Or.inl ⟨by rfl, ?_⟩) hHeld (fun hHeld => ?_)
  · (intro w1 hSw; have hSw := hSw.1; (try dsimp only at hSw); go_simp)
  simp only [List.getElem_toArray, List.getElem_cons_succ, List.getElem_cons_zero, Act.put, List.setIfInBounds_toArray, List.set_cons_zero, List.set_cons_succ]
  refine wpAnyS_take (i := 5) (v := .pointer (some ⟨g, 0, none⟩)) _ rfl (by kernel_rfl) (by kernel_rfl) (by kernel_rfl) (by kernel_rfl) (by kernel_rfl) rfl (fun _ _ _ h => h) (Or.inl ⟨by rfl, ?_⟩) hHeld (fun hHeld => ?_)
  · (intro w1 hSw; have hSw := hSw.1; (try dsimp only at hSw); go_simp)
  simp only [List.getElem_toArray, List.getElem_cons_succ, List.getElem_cons_zero, Act.put, List.setIfInBounds_toArray, List.set_cons_zero, List.set_cons_succ]
  refine wpAnyS_take (i := 6) (v := .pointer (some ⟨g, 2, none⟩)) _ rfl (by kernel_rfl) (by kernel_rfl) (by kernel_rfl) (by kernel_rfl) (by kernel_rfl) rfl (fun _ _ _ h => h) (Or.inl ⟨by rfl, ?_⟩) hHeld (fun hHeld => ?_)
  · (intro w1 hSw; have hSw := hSw.1; (try dsimp only at hSw); go_simp)
  simp only [List.getElem_toArray, List.getElem_cons_succ, List.getElem_cons_zero, Act.put, List.setIfInBounds_toArray, List.set_cons_zero, List.set_cons_succ]
  refine wpAnyS_take (i := 7) (v := .map (some m2)) true rfl (by kernel_rfl) (by kernel_rfl) (by kernel_rfl) (by kernel_rfl) (by kernel_rfl) (by kernel_rfl) (fun _ _ _ h => h) (Or.inl ⟨by rfl, ?_⟩) hHeld (fun hHeld => ?_)
  · (intro w1 hSw; have hSw2 := hSw.2 rfl; have hSw := hSw.1; (try dsimp only at hSw hSw2); go_simp)
  simp only [List.getElem_toArray, List.getElem_cons_succ, List.getElem_cons_zero, Act.put, List.setIfInBounds_toArray, List.set_cons_zero, List.set_cons_succ]
  refine wpAnyS_ready (i := 8) (by kernel_rfl) rfl (fun K hK => ?_)
  go_simp
  refine HCP.out.mono ?_
  rintro e w4 ⟨rfl, hf4, ho4⟩
  have HO4 : Hid (Onl O w w4) := HO3.out.then ho4
  obtain ⟨S2, HS2⟩ := hid_ex ({ S1 with dir := S1.old } : SfS)
  have HF4 : Hid (FsAt w4 O g m1 m2 (.slice none 0 0) bl vs S2) := by show FsAt w4 O g m1 m2 (.slice none 0 0) bl vs S2; rw [HS2.out]; exact hf4
  clear hf4 ho4 HCP HO3 HF3 d1 d2
  go_simp
  refine hK.out _ _ ⟨?_, fun hno => absurd hno (by decide)⟩ (fun hHeld => ?_)
  · trivial
  clear hK K
  refine wpAnyS_done (by kernel_rfl) ?_ _
  refine NoPanic.normal ?_
  have HW2 : Hid (SfWf S2) := by
    show SfWf S2
    have q := HW.out
    have hfd : ∀ p ∈ (s.pend.take k).foldl sfDo s.old, p.2 < s.fls.length ∧ p.1.length ≤ 32 := sfDo_fold_ok q.oi (fun a ha => q.pi a (List.mem_of_mem_take ha))
    have e1 : S1 = sfSettle s k := HS1.out
    rw [HS2.out, e1]
    exact ⟨q.r1, q.r2, q.l1, q.l2, hfd, hfd, by simp [sfSettle], rfl, fun j => by simp only [sfSettle, List.take_nil, List.foldl_nil]; exact q.ln k, q.sy⟩
  have hls := list_any HF4.out HW2.out
  have hdl2 := HW2.out.dl
  go_wp2_with fail
  refine hls.mono ?_
  rintro e w5 ⟨lv, rfl, hrow, hb5⟩
  obtain ⟨N, HN⟩ := hid_ex S2.dir.length
  rw [← HN.out] at hrow hdl2
  obtain ⟨la, lc, hlv⟩ := row_form hrow
  subst hlv
  have HF5 : Hid (FsAt w5 O g m1 m2 (.slice none 0 0) bl vs S2) := HF4.out.keep (fun k hk => hb5.block k (HF4.out.lt k hk)) hb5.size
  have HO5 : Hid (Onl O w w5) := HO4.out.then (onl_of_below hb5)
  have HR5 : Hid (w5.ownsRow w4.heap.size 9 1 (.slice la N lc) N (S2.dir.map fun p => sv p.1)) := hrow
  have HSO : Hid (S2.dir.Pairwise (fun p q => p.1 ≠ q.1)) := sorted_ne HF4.out.h1.apart
  clear hrow hb5 hls HF4
  go_wp2_with fail
  go_loopw [39] (fun i wr => ∃ (j : Nat) (vs' : Nat → Value) (fls' : List (List UInt8 × Nat)), i = .int .i64 (j : Int) ∧ j ≤ N ∧ Hid (FsAt wr O g m1 m2 (.slice none 0 0) bl vs' { S2 with fls := fls' }) ∧ Hid (sfCuts (S2.dir.drop j) (ks.drop j) fls' = sfCuts S2.dir ks S2.fls) ∧ Hid (sfFlOk fls') ∧ Hid (fls'.length = S2.fls.length) ∧ Hid (wr.ownsRow w4.heap.size 9 1 (.slice la N lc) N (S2.dir.map fun p => sv p.1)) ∧ Hid (Onl O w wr)) (fun i _ => N - (intOf i).toNat)
  case atStart => exact ⟨0, vs, S2.fls, rfl, by omega, HF5, rfl, HW2.out.sy, rfl, HR5, HO5⟩
  case round =>
    obtain ⟨j, vs', fls', rfl, hj, HR, HCU, HOK, HLN, HRW, HO⟩ := hrel
    by_cases hlt : j < N
    · have hlt' : (j : Int) < (N : Int) := by omega
      have hjd : j < S2.dir.length := by rw [← HN.out]; exact hlt
      obtain ⟨PE, HPE⟩ := hid_ex (S2.dir[j])
      obtain ⟨lb, hla, x0⟩ := row_str' HRW.out HN.out hlt
      subst hla
      rw [← HPE.out] at x0
      have hpm : PE ∈ S2.dir := by rw [HPE.out]; exact List.getElem_mem hjd
      obtain ⟨nm, I⟩ := PE
      have hI : I < S2.fls.length := (HW2.out.di _ hpm).1
      have hnm : nm.length ≤ 32 := (HW2.out.di _ hpm).2
      have hlook := HR.out.h1.look nm (by simp only [maxLen]; omega)
      have hlk : sfLook nm S2.dir = some I := mem_look HSO.out hpm
      rw [show ({ S2 with fls := fls' } : SfS).dir = S2.dir from rfl, hlk] at hlook
      simp only [sfPv] at hlook
      have d1 := HR.out.c1
      clear hlk hpm
      have hI' : I = S2.dir[j].2 := by rw [← HPE.out]
      have HPE : Hid (I = S2.dir[j].2) := hI'
      clear hI'
      by_cases hjk : j < ks.length
      · have hjk' : (j : Int) < (ks.length : Int) := by omega
        obtain ⟨a', cap', hkv, -, hq⟩ := HKR.out wr HO.out
        rcases hq with hq | ⟨kb, ko, hka, -, hcell⟩
        · rw [hq] at hjk; simp at hjk
        · simp at hkv
          obtain ⟨rfl, rfl⟩ := hkv
          subst hka
          have y0 := hcell j hjk
          obtain ⟨KP, hKP⟩ := hid_ex (ks[j])
          rw [← hKP.out] at y0
          have HKP : Hid (KP = (ks.drop j).headD 0) := by show KP = _; rw [headD_drop, dif_pos hjk, hKP.out]
          clear hcell hKP
          have HCT : Hid (Calls Tryz.prog 61 #[.pointer (some ⟨bl I, 0, none⟩), .int .i64 KP] wr fun e w' => e = .returned (.tuple #[]) ∧ ∃ vs1, FsAt w' O g m1 m2 (.slice none 0 0) bl vs1 { S2 with fls := fls'.set I (sfCut (fls'.getD I ([], 0)) KP) } ∧ Onl O wr w') := by
            obtain ⟨hf, hb⟩ := HR.out.file (s := { S2 with fls := fls' }) (i := I) (by show I < fls'.length; rw [HLN.out]; exact hI)
            have hfg : fls'[I]? = some (fls'.getD I ([], 0)) := by rw [List.getD_eq_getElem?_getD, List.getElem?_eq_getElem (by rw [HLN.out]; exact hI)]; rfl
            have hok := HOK.out I _ hfg
            refine (cut_any (f := fls'.getD I ([], 0)) hf hb hok.1 hok.2 KP).mono ?_
            rintro e w' ⟨he, v', hv1, hv2, hv3, hv4, hv5⟩
            have hIl : I < ({ S2 with fls := fls' } : SfS).fls.length := by show I < fls'.length; rw [HLN.out]; exact hI
            refine ⟨he, updF vs' I v', ?_, ⟨hv4.os, hv4.tape, hv4.output, hv4.size, fun k hk ho => hv4.block k hk (fun e => ho (e ▸ HR.out.fl.ob I hIl))⟩⟩
            exact HR.out.setI (fun _ q => q) (fun k q => by rw [hv5]; exact HR.out.lt k q) hIl (fun k ho hk _ => hv4.block k (HR.out.lt k ho) hk) hv2 hv3 (fun k hk => .inl (hv1 k hk))
          have HNX : Hid (sfCuts (S2.dir.drop (j + 1)) (ks.drop (j + 1)) (fls'.set I (sfCut (fls'.getD I ([], 0)) KP)) = sfCuts S2.dir ks S2.fls) := by
            show _ = _
            rw [← HCU.out, sfCuts_step hjd, ← HKP.out, ← HPE.out]
          go_wp2_with fail
          refine HCT.out.mono ?_
          rintro e w6 ⟨rfl, vs1, hf6, ho6⟩
          have HR6 := (show Hid (FsAt w6 O g m1 m2 (.slice none 0 0) bl vs1 { S2 with fls := fls'.set I (sfCut (fls'.getD I ([], 0)) KP) }) from hf6)
          have HO6 : Hid (Onl O w w6) := HO.out.then ho6
          have HRW6 : Hid (w6.ownsRow w4.heap.size 9 1 (.slice (some ⟨lb, 0, none⟩) N lc) N (S2.dir.map fun p => sv p.1)) := row_keepB HRW.out (fun k hk hl => ho6.block k hl (fun q => by have := HF.out.lt k q; have := HO4.out.size; omega))
          have HOK6 : Hid (sfFlOk (fls'.set I (sfCut (fls'.getD I ([], 0)) KP))) := HOK.out.cut I KP
          have HLN6 : Hid ((fls'.set I (sfCut (fls'.getD I ([], 0)) KP)).length = S2.fls.length) := (List.length_set ..).trans HLN.out
          clear hf6 ho6 HCT
          go_wp2_with fail
          go_roundw
          case rel => exact ⟨j + 1, vs1, _, by go_num, by omega, HR6, HNX, HOK6, HLN6, HRW6, HO6⟩
          case measure => simp [intOf]; omega
      · have hjk' : ¬ (j : Int) < (ks.length : Int) := by omega
        have HKP : Hid ((0 : Int) = (ks.drop j).headD 0) := by show (0 : Int) = _; rw [headD_drop, dif_neg hjk]
        have HCT : Hid (Calls Tryz.prog 61 #[.pointer (some ⟨bl I, 0, none⟩), .int .i64 0] wr fun e w' => e = .returned (.tuple #[]) ∧ ∃ vs1, FsAt w' O g m1 m2 (.slice none 0 0) bl vs1 { S2 with fls := fls'.set I (sfCut (fls'.getD I ([], 0)) 0) } ∧ Onl O wr w') := by
          obtain ⟨hf, hb⟩ := HR.out.file (s := { S2 with fls := fls' }) (i := I) (by show I < fls'.length; rw [HLN.out]; exact hI)
          have hfg : fls'[I]? = some (fls'.getD I ([], 0)) := by rw [List.getD_eq_getElem?_getD, List.getElem?_eq_getElem (by rw [HLN.out]; exact hI)]; rfl
          have hok := HOK.out I _ hfg
          refine (cut_any (f := fls'.getD I ([], 0)) hf hb hok.1 hok.2 0).mono ?_
          rintro e w' ⟨he, v', hv1, hv2, hv3, hv4, hv5⟩
          have hIl : I < ({ S2 with fls := fls' } : SfS).fls.length := by show I < fls'.length; rw [HLN.out]; exact hI
          refine ⟨he, updF vs' I v', ?_, ⟨hv4.os, hv4.tape, hv4.output, hv4.size, fun k hk ho => hv4.block k hk (fun e => ho (e ▸ HR.out.fl.ob I hIl))⟩⟩
          exact HR.out.setI (fun _ q => q) (fun k q => by rw [hv5]; exact HR.out.lt k q) hIl (fun k ho hk _ => hv4.block k (HR.out.lt k ho) hk) hv2 hv3 (fun k hk => .inl (hv1 k hk))
        have HNX : Hid (sfCuts (S2.dir.drop (j + 1)) (ks.drop (j + 1)) (fls'.set I (sfCut (fls'.getD I ([], 0)) 0)) = sfCuts S2.dir ks S2.fls) := by
          show _ = _
          rw [← HCU.out, sfCuts_step hjd, ← HKP.out, ← HPE.out]
        go_wp2_with fail
        refine HCT.out.mono ?_
        rintro e w6 ⟨rfl, vs1, hf6, ho6⟩
        have HR6 := (show Hid (FsAt w6 O g m1 m2 (.slice none 0 0) bl vs1 { S2 with fls := fls'.set I (sfCut (fls'.getD I ([], 0)) 0) }) from hf6)
        have HO6 : Hid (Onl O w w6) := HO.out.then ho6
        have HRW6 : Hid (w6.ownsRow w4.heap.size 9 1 (.slice (some ⟨lb, 0, none⟩) N lc) N (S2.dir.map fun p => sv p.1)) := row_keepB HRW.out (fun k hk hl => ho6.block k hl (fun q => by have := HF.out.lt k q; have := HO4.out.size; omega))
        have HOK6 : Hid (sfFlOk (fls'.set I (sfCut (fls'.getD I ([], 0)) 0))) := HOK.out.cut I 0
        have HLN6 : Hid ((fls'.set I (sfCut (fls'.getD I ([], 0)) 0)).length = S2.fls.length) := (List.length_set ..).trans HLN.out
        clear hf6 ho6 HCT
        go_wp2_with fail
        go_roundw
        case rel => exact ⟨j + 1, vs1, _, by go_num, by omega, HR6, HNX, HOK6, HLN6, HRW6, HO6⟩
        case measure => simp [intOf]; omega
    · have hlt' : ¬ (j : Int) < (N : Int) := by omega
      have hjn : j = S2.dir.length := by rw [← HN.out]; omega
      have HFE : Hid (fls' = sfCuts S2.dir ks S2.fls) := by
        have := HCU.out
        rw [List.drop_eq_nil_of_le (by omega)] at this
        exact this
      have c5 := HR.out.c5
      have z5 := HR.out.fz 5
      clear hjn
      go_wp2_with fail
      go_ret
      refine ⟨rfl, FsAt.to (pv := .slice none 0 0) (bl := bl) (vs := vs') ?_ HF.out.lt (HO.out.then (Onl.set (a := ⟨g, 5, none⟩) HR.out.og _))⟩
      have e1 : ({ S1 with dir := S1.old, fls := sfCuts S1.old ks s.fls, fault := 0 } : SfS) = { S2 with fls := fls', pend := S2.pend, left := S2.left, fault := 0 } := by
        rw [HFE.out, HS2.out, HS1.out]; rfl
      rw [e1]
      refine FsAt.setG (s := { S2 with fls := fls' }) HR.out (fun _ q => q) (fun k q => by have := HR.out.lt k q; simp [World.setCell]; exact this) (fun k _ hk _ => Below.heap_setCell _ _ _ _ hk) ?_ (HR.out.hp.keep fun k hk => by simp [Value.ownBlock] at hk) (fun k hk => by simp [Value.ownBlock] at hk)
      have := cells_set HR.out.hg 5 (.int .i64 0); simpa using this
end Go.Proofs.YtilbffgpniomcaaGreatDoor

/- A file system: what every call keeps, plainly; the calls in one form. -/
namespace Go.Proofs.YtilbffgpniomcaaGreatDoor
open Go.RowKit Go.Maps Go.Sort

theorem SfWf.fold {s : SfS} (q : SfWf s) (k : Nat) : ∀ p ∈ (s.pend.take k).foldl sfDo s.old, p.2 < s.fls.length ∧ p.1.length ≤ 32 := sfDo_fold_ok q.oi (fun a ha => q.pi a (List.mem_of_mem_take ha))
theorem SfWf.syncDir {s : SfS} (h : SfWf s) : SfWf (sfSyncDir s).2 := by
  unfold sfSyncDir
  split
  · have q := h.plan
    have e : s.pend.length = (sfPlan s).2.pend.length := by rw [sfPlan_pend]
    rw [e]
    have hf := q.fold (sfPlan s).2.pend.length
    have hd : ((sfPlan s).2.pend.take (sfPlan s).2.pend.length).foldl sfDo (sfPlan s).2.old = (sfPlan s).2.dir := by rw [List.take_length, ← q.ap]
    refine ⟨q.r1, q.r2, q.l1, q.l2, q.di, hf, fun a ha => by simp [sfSettle] at ha, ?_, fun k => ?_, q.sy⟩
    · simp only [sfSettle, List.foldl_nil]; exact hd.symm
    · simp only [sfSettle, List.take_nil, List.foldl_nil, hd]; exact q.dl
  · exact h.plan
theorem sfCuts_len : ∀ (dir : List (List UInt8 × Nat)) (ks : List Int) (fls : List (List UInt8 × Nat)), (sfCuts dir ks fls).length = fls.length
  | [], _, _ => rfl
  | p :: r, ks, fls => by rw [sfCuts, sfCuts_len r, List.length_set]
theorem sfCuts_ok : ∀ (dir : List (List UInt8 × Nat)) (ks : List Int) (fls : List (List UInt8 × Nat)), sfFlOk fls → sfFlOk (sfCuts dir ks fls)
  | [], _, _, h => h
  | p :: r, ks, fls, h => by rw [sfCuts]; exact sfCuts_ok r _ _ (h.cut _ _)
theorem SfWf.crash {s : SfS} (q : SfWf s) (n : Int) (ks : List Int) : SfWf (sfCrash s n ks) := by
  have hf := q.fold (max n 0).toNat
  have hl : (sfCrash s n ks).fls.length = s.fls.length := sfCuts_len _ _ _
  refine ⟨q.r1, q.r2, q.l1, q.l2, fun p hp => ?_, fun p hp => ?_, fun a ha => by simp [sfCrash, sfSettle] at ha, rfl, fun k => ?_, sfCuts_ok _ _ _ q.sy⟩
  · rw [hl]; exact hf p hp
  · rw [hl]; exact hf p hp
  · simp only [sfCrash, sfSettle, List.take_nil, List.foldl_nil]; exact q.ln _
theorem SfWf.change {s : SfS} (h : SfWf s) {a : SfA} (ha : (∀ i, a.file = some i → i < s.fls.length) ∧ a.gone.length ≤ 32 ∧ a.name.length ≤ 32) (hd : (sfDo s.dir a).length ≤ 256) : SfWf (sfChange s a).2 := by
  unfold sfChange
  split
  · have q := h.plan
    have e1 := sfPlan_dir s
    have e2 := sfPlan_fls s
    refine ⟨q.r1, q.r2, q.l1, q.l2, ?_, q.oi, ?_, ?_, fun k => ?_, q.sy⟩
    · exact sfDo_ok q.di (by rw [e2]; exact ha)
    · intro b hb
      rcases List.mem_append.1 hb with hb | hb
      · exact q.pi b hb
      · obtain rfl : b = a := by simpa using hb
        show (∀ i, b.file = some i → i < (sfPlan s).2.fls.length) ∧ _
        rw [e2]; exact ha
    · show sfDo (sfPlan s).2.dir a = ((sfPlan s).2.pend ++ [a]).foldl sfDo (sfPlan s).2.old
      rw [List.foldl_append, ← q.ap]; rfl
    · show (((sfPlan s).2.pend ++ [a]).take k |>.foldl sfDo (sfPlan s).2.old).length ≤ 256
      rcases Nat.lt_or_ge (sfPlan s).2.pend.length k with hk | hk
      · rw [List.take_of_length_le (by simp; omega), List.foldl_append, ← q.ap]
        show (sfDo (sfPlan s).2.dir a).length ≤ 256
        rw [e1]; exact hd
      · rw [List.take_append_of_le_length hk]; exact q.ln k
  · exact h.plan
theorem sfDel_lt {s : List UInt8} {i : Nat} : ∀ {l : List (List UInt8 × Nat)}, sfLook s l = some i → (sfDel s l).length + 1 ≤ l.length
  | y :: r, h => by
    unfold sfLook at h
    rw [List.find?_cons] at h
    by_cases e : y.1 == s
    · have : sfDel s (y :: r) = sfDel s r := by unfold sfDel; rw [List.filter_cons, e]; rfl
      rw [this]
      have := sfDel_le s r
      simp; omega
    · rw [Bool.not_eq_true] at e
      rw [e] at h
      have ih := sfDel_lt (l := r) h
      have : sfDel s (y :: r) = y :: sfDel s r := by unfold sfDel; rw [List.filter_cons, e]; rfl
      rw [this]
      simp; omega
theorem sfName_len {n : List UInt8} (h : sfName n = true) : n.length ≤ 32 ∧ 1 ≤ n.length := by
  unfold sfName at h
  simp only [Bool.and_eq_true, decide_eq_true_eq] at h
  omega
theorem SfWf.create {s : SfS} (h : SfWf s) (n : List UInt8) : SfWf (sfCreate s n).2 := by
  unfold sfCreate
  split
  · exact h
  · split
    · exact h
    · split
      · exact h
      · rename_i h1 h2 h3
        have hn := sfName_len (by simpa using h1)
        refine h.new.change ⟨fun i hi => ?_, by simp, hn.1⟩ ?_
        · simp at hi; subst hi; simp [sfNew]
        · have := sfDo_le (sfNew s).dir ⟨[], n, some s.fls.length⟩
          have e : (sfNew s).dir = s.dir := rfl
          rw [e] at this ⊢
          omega
theorem SfWf.setF {s : SfS} (q : SfWf s) {i : Nat} {f : List UInt8 × Nat} (hf : f.2 ≤ f.1.length ∧ f.1.length ≤ 1048576) : SfWf (s.setF i f) := by
  have hl : (s.setF i f).fls.length = s.fls.length := by simp [SfS.setF]
  refine ⟨q.r1, q.r2, q.l1, q.l2, fun p hp => by rw [hl]; exact q.di p hp, fun p hp => by rw [hl]; exact q.oi p hp, fun a ha => by rw [hl]; exact q.pi a ha, q.ap, q.ln, fun j g hg => ?_⟩
  by_cases e : i = j
  · subst e
    rcases Nat.lt_or_ge i s.fls.length with hi | hi
    · rw [SfS.setF, List.getElem?_set_self hi] at hg
      obtain rfl : f = g := by simpa using hg
      exact hf
    · rw [List.getElem?_eq_none (by rw [hl]; exact hi)] at hg; cases hg
  · rw [SfS.setF, List.getElem?_set_ne e] at hg; exact q.sy j g hg
theorem SfWf.append {s : SfS} (h : SfWf s) (n b : List UInt8) : SfWf (sfAppend s n b).2 := by
  unfold sfAppend
  split
  · exact h
  · rename_i i _
    split
    · exact h
    · split
      · exact h
      · split
        · refine h.plan.setF ?_
          have := (h.fl32 i).2
          simp only [List.length_append]; omega
        · exact h.plan
theorem SfWf.sync {s : SfS} (h : SfWf s) (n : List UInt8) : SfWf (sfSync s n).2 := by
  unfold sfSync
  split
  · exact h
  · rename_i i _
    split
    · exact h.plan.setF ⟨Nat.le_refl _, (h.fl32 i).1⟩
    · exact h.plan
theorem SfWf.rename {s : SfS} (h : SfWf s) (n m : List UInt8) : SfWf (sfRename s n m).2 := by
  unfold sfRename
  split
  · exact h
  · rename_i h1
    have hm := sfName_len (by simpa using h1)
    split
    · exact h
    · rename_i i hi
      refine h.change ⟨fun j hj => ?_, (h.di _ (look_mem hi)).2, hm.1⟩ ?_
      · simp at hj; subst hj; exact (h.di _ (look_mem hi)).1
      · have h1 := sfDel_lt hi
        have h2 := sfPut_le (m, i) (sfDel n s.dir)
        have h3 := h.dl
        show (sfPut (m, i) (sfDel n s.dir)).length ≤ 256
        omega
theorem SfWf.remove {s : SfS} (h : SfWf s) (n : List UInt8) : SfWf (sfRemove s n).2 := by
  unfold sfRemove
  split
  · exact h
  · rename_i i hi
    refine h.change ⟨fun j hj => by simp at hj, (h.di _ (look_mem hi)).2, by simp⟩ ?_
    have h1 := sfDel_le n s.dir
    have h3 := h.dl
    show (sfDel n s.dir).length ≤ 256
    omega
theorem SfWf.fail {s : SfS} (q : SfWf s) (n e : Int) (h2 : n < 9223372036854775808) : SfWf (sfFail s n e).2 := by
  unfold sfFail
  split
  · exact q
  · split
    · exact ⟨q.r1, q.r2, q.l1, q.l2, q.di, q.oi, q.pi, q.ap, q.ln, q.sy⟩
    · exact ⟨q.r1, q.r2, by show _ ≤ n; omega, h2, q.di, q.oi, q.pi, q.ap, q.ln, q.sy⟩
/-- A file system, wherever it lies. -/
def Fs (w : World) (O : Nat → Prop) (p : Value) (s : SfS) : Prop := SfWf s ∧ ∃ g m1 m2 pv bl vs, p = .pointer (some ⟨g, 0, none⟩) ∧ FsAt w O g m1 m2 pv bl vs s
/-- What a call answers and leaves. -/
def FsR (w : World) (O : Nat → Prop) (p : Value) (r : Int × SfS) (e : Ending) (w' : World) : Prop := e = .returned (.int .i64 r.1) ∧ Fs w' (Grw O w w') p r.2 ∧ Onl O w w'
theorem Fs.lt {w : World} {O : Nat → Prop} {p : Value} {s : SfS} (h : Fs w O p s) : ∀ k, O k → k < w.heap.size := by
  obtain ⟨_, g, m1, m2, pv, bl, vs, rfl, hf⟩ := h
  exact hf.lt
theorem Fs.keep {w w' : World} {O : Nat → Prop} {p : Value} {s : SfS} (h : Fs w O p s) (hk : ∀ k, O k → w'.heap[k]? = w.heap[k]?) (hs : w.heap.size ≤ w'.heap.size) : Fs w' O p s := by
  obtain ⟨hw, g, m1, m2, pv, bl, vs, rfl, hf⟩ := h
  exact ⟨hw, g, m1, m2, pv, bl, vs, rfl, hf.keep hk hs⟩
theorem Fs.below {w w' : World} {O : Nat → Prop} {p : Value} {s : SfS} (h : Fs w O p s) (hb : Below w.heap.size w w') : Fs w' O p s := h.keep (fun k hk => hb.block k (h.lt k hk)) hb.size
theorem Fs.wider {w : World} {O O' : Nat → Prop} {p : Value} {s : SfS} (h : Fs w O p s) (hO : ∀ k, O k → O' k) (hl : ∀ k, O' k → k < w.heap.size) : Fs w O' p s := by
  obtain ⟨hw, g, m1, m2, pv, bl, vs, rfl, hf⟩ := h
  exact ⟨hw, g, m1, m2, pv, bl, vs, rfl, hf.wider hO hl⟩
theorem Fs.ptr {w : World} {O : Nat → Prop} {p : Value} {s : SfS} (h : Fs w O p s) : ∃ g, p = .pointer (some ⟨g, 0, none⟩) := by
  obtain ⟨_, g, m1, m2, pv, bl, vs, rfl, hf⟩ := h
  exact ⟨g, rfl⟩
theorem Fs.sorted {w : World} {O : Nat → Prop} {p : Value} {s : SfS} (h : Fs w O p s) : s.dir.Pairwise (fun p q => bytesBefore p.1 q.1 = true) := by
  obtain ⟨_, g, m1, m2, pv, bl, vs, rfl, hf⟩ := h
  exact hf.h1.apart
theorem Fs.sorted2 {w : World} {O : Nat → Prop} {p : Value} {s : SfS} (h : Fs w O p s) : s.old.Pairwise (fun p q => bytesBefore p.1 q.1 = true) := by
  obtain ⟨_, g, m1, m2, pv, bl, vs, rfl, hf⟩ := h
  exact hf.h2.apart
/-- Another one, of which no block is touched. -/
theorem Fs.other {w w' : World} {O O' : Nat → Prop} {p : Value} {s : SfS} (h : Fs w O p s) (ho : Onl O' w w') (hd : ∀ k, O k → ¬ O' k) : Fs w' O p s := h.keep (fun k hk => ho.block k (h.lt k hk) (hd k hk)) ho.size
theorem FsTo.fs {w w' : World} {O : Nat → Prop} {g m1 m2 : Nat} {s : SfS} (h : FsTo w O g m1 m2 s w') (hw : SfWf s) : Fs w' (Grw O w w') (.pointer (some ⟨g, 0, none⟩)) s ∧ Onl O w w' := by
  obtain ⟨⟨pv, bl, vs, hf⟩, ho⟩ := h
  exact ⟨⟨hw, g, m1, m2, pv, bl, vs, rfl, hf⟩, ho⟩
theorem Fs.create {w : World} {O : Nat → Prop} {p : Value} {s : SfS} (h : Fs w O p s) (n : List UInt8) (hn : n.length ≤ maxLen) (hpn : s.pend.length < 1099511627776) : Calls Tryz.prog 9 #[p, .string ⟨n.toArray⟩] w (FsR w O p (sfCreate s n)) := by
  obtain ⟨hw, g, m1, m2, pv, bl, vs, rfl, hf⟩ := h
  exact (create_any hf hw n hn hpn).mono fun e w' h => ⟨h.1, h.2.fs (hw.create n)⟩
theorem Fs.append {w : World} {O : Nat → Prop} {p : Value} {s : SfS} (h : Fs w O p s) (n : List UInt8) (hn : n.length ≤ maxLen) (bv : Value) (b : List UInt8) (hR : ∀ w', Onl O w w' → Reads w' bv b) : Calls Tryz.prog 10 #[p, .string ⟨n.toArray⟩, bv] w (FsR w O p (sfAppend s n b)) := by
  obtain ⟨hw, g, m1, m2, pv, bl, vs, rfl, hf⟩ := h
  exact (append_any hf hw n hn bv b hR).mono fun e w' h => ⟨h.1, h.2.fs (hw.append n b)⟩
theorem Fs.sync {w : World} {O : Nat → Prop} {p : Value} {s : SfS} (h : Fs w O p s) (n : List UInt8) (hn : n.length ≤ maxLen) : Calls Tryz.prog 83 #[p, .string ⟨n.toArray⟩] w (FsR w O p (sfSync s n)) := by
  obtain ⟨hw, g, m1, m2, pv, bl, vs, rfl, hf⟩ := h
  exact (sync_any hf hw n hn).mono fun e w' h => ⟨h.1, h.2.fs (hw.sync n)⟩
theorem Fs.rename {w : World} {O : Nat → Prop} {p : Value} {s : SfS} (h : Fs w O p s) (n m : List UInt8) (hn : n.length ≤ maxLen) (hm : m.length ≤ maxLen) (hpn : s.pend.length < 1099511627776) : Calls Tryz.prog 48 #[p, .string ⟨n.toArray⟩, .string ⟨m.toArray⟩] w (FsR w O p (sfRename s n m)) := by
  obtain ⟨hw, g, m1, m2, pv, bl, vs, rfl, hf⟩ := h
  exact (rename_any hf hw n m hn hm hpn).mono fun e w' h => ⟨h.1, h.2.fs (hw.rename n m)⟩
theorem Fs.remove {w : World} {O : Nat → Prop} {p : Value} {s : SfS} (h : Fs w O p s) (n : List UInt8) (hn : n.length ≤ maxLen) (hpn : s.pend.length < 1099511627776) : Calls Tryz.prog 46 #[p, .string ⟨n.toArray⟩] w (FsR w O p (sfRemove s n)) := by
  obtain ⟨hw, g, m1, m2, pv, bl, vs, rfl, hf⟩ := h
  exact (remove_any hf hw n hn hpn).mono fun e w' h => ⟨h.1, h.2.fs (hw.remove n)⟩
theorem Fs.syncDir {w : World} {O : Nat → Prop} {p : Value} {s : SfS} (h : Fs w O p s) : Calls Tryz.prog 45 #[p] w (FsR w O p (sfSyncDir s)) := by
  obtain ⟨hw, g, m1, m2, pv, bl, vs, rfl, hf⟩ := h
  exact (syncDir_any hf hw).mono fun e w' h => ⟨h.1, h.2.fs hw.syncDir⟩
theorem Fs.crash {w : World} {O : Nat → Prop} {p : Value} {s : SfS} (h : Fs w O p s) (n : Int) (kv : Value) (ks : List Int) (hK : ∀ w', Onl O w w' → KReads w' kv ks) : Calls Tryz.prog 27 #[p, .int .i64 n, kv] w (FsR w O p (0, sfCrash s n ks)) := by
  obtain ⟨hw, g, m1, m2, pv, bl, vs, rfl, hf⟩ := h
  exact (crash_any hf hw n kv ks hK).mono fun e w' h => ⟨h.1, h.2.fs (hw.crash n ks)⟩
theorem Fs.fail {w : World} {O : Nat → Prop} {p : Value} {s : SfS} (h : Fs w O p s) (n e : Int) (h2 : n < 9223372036854775808) : Calls Tryz.prog 26 #[p, .int .i64 n, .int .i64 e] w (FsR w O p (sfFail s n e)) := by
  obtain ⟨hw, g, m1, m2, pv, bl, vs, rfl, hf⟩ := h
  exact (fail_any hf hw n e).mono fun e w' h => ⟨h.1, h.2.fs (hw.fail n _ h2)⟩
theorem Fs.read {w : World} {O : Nat → Prop} {p : Value} {s : SfS} (h : Fs w O p s) (n : List UInt8) (hn : n.length ≤ maxLen) : Calls Tryz.prog 23 #[p, .string ⟨n.toArray⟩] w fun e w' => ∃ v, e = .returned (.tuple #[v, .int .i64 (sfFe (sfLook n s.dir))]) ∧ Own w' w.heap.size v (sfRead s n) ∧ Below w.heap.size w w' := by
  obtain ⟨hw, g, m1, m2, pv, bl, vs, rfl, hf⟩ := h
  exact read_any hf hw n hn
theorem Fs.list {w : World} {O : Nat → Prop} {p : Value} {s : SfS} (h : Fs w O p s) : Calls Tryz.prog 19 #[p] w fun e w' => ∃ v, e = .returned v ∧ w'.ownsRow w.heap.size 9 1 v s.dir.length (s.dir.map fun p => sv p.1) ∧ Below w.heap.size w w' := by
  obtain ⟨hw, g, m1, m2, pv, bl, vs, rfl, hf⟩ := h
  exact list_any hf hw
theorem Fs.used {w : World} {O : Nat → Prop} {p : Value} {s : SfS} (h : Fs w O p s) : Calls Tryz.prog 34 #[p] w fun e w' => e = .returned (.int .i64 (sfUsed s : Int)) ∧ Below w.heap.size w w' := by
  obtain ⟨hw, g, m1, m2, pv, bl, vs, rfl, hf⟩ := h
  exact used_any hf hw
theorem fs_new (r : Int) (w : World) (h : 1 ≤ r) (h2 : r < 9223372036854775808) : Calls Tryz.prog 8 #[.int .i64 r] w fun e w' => ∃ p, e = .returned (.tuple #[p, .int .i64 0]) ∧ Fs w' (fun k => w.heap.size ≤ k ∧ k < w'.heap.size) p (sfZ r) ∧ Below w.heap.size w w' := by
  refine (new_any r w h).mono ?_
  rintro e w' ⟨he, hf, hb, hs⟩
  exact ⟨_, he, ⟨sfWf_zero h h2, _, _, _, _, _, _, rfl, hf.wider (fun k q => ⟨q.1, by omega⟩) (fun k q => q.2)⟩, hb⟩
end Go.Proofs.YtilbffgpniomcaaGreatDoor

/- manifest over a file system: its calls, plainly. -/
namespace Go.Proofs.YtilbffgpniomcaaGreatDoor
open Go.RowKit Go.Shelf

def man : List UInt8 := [109, 97, 110, 45]
def newN : List UInt8 := [99, 117, 114, 114, 101, 110, 116, 46, 110, 101, 119]
def sfThen (r : Int × SfS) (k : SfS → Int × SfS) : Int × SfS := if r.1 = 0 then k r.2 else r
theorem sfThen_ok {r : Int × SfS} (h : r.1 = 0) (k : SfS → Int × SfS) : sfThen r k = k r.2 := by unfold sfThen; rw [if_pos h]
theorem sfThen_no {r : Int × SfS} (h : r.1 ≠ 0) (k : SfS → Int × SfS) : sfThen r k = r := by unfold sfThen; rw [if_neg h]
theorem sfThen_0 (t : SfS) (k : SfS → Int × SfS) : sfThen (0, t) k = k t := sfThen_ok rfl k
def mfExt (s : SfS) (nm d : List UInt8) : Int × SfS := sfThen (sfAppend s nm (frm d)) fun t => sfSync t nm
def mfCre (s : SfS) (nm d : List UInt8) : Int × SfS := sfThen (sfCreate s nm) fun t => mfExt t nm d
def edS (st : St) : Ed := ⟨[], st.ru, st.lo, st.ne, st.ma⟩
def stB (st : St) : List UInt8 := shB (nmE (edS st))
def mfPt (s : SfS) (n : Int) : Int × SfS := sfThen (mfCre s newN (sh n.toNat)) fun t => sfThen (sfRename t newN curN) sfSyncDir
def mfRm (s : SfS) (n : Int) : Int × SfS := if (sfRemove s newN).1 = 0 ∨ (sfRemove s newN).1 = 4 then mfPt (sfRemove s newN).2 n else sfRemove s newN
def mfSv (s : SfS) (n : Int) (st : St) : Int × SfS := sfThen (mfCre s (nmF man n) (stB st)) fun t => sfThen (sfSyncDir t) fun u => mfRm u n
/-- What Save does. -/
def mfSave (s : SfS) (n : Int) (st : St) : Int × SfS := if okSt st ∧ isNo n = true then mfSv s n st else (1, s)
/-- What Append does. -/
def mfApp (s : SfS) (n : Int) (x : Ed) : Int × SfS := match edW x with
  | none => (100, s)
  | some b => mfExt s (nmF man n) b
/-- What Load tells. -/
def mfLd (s : SfS) : Option (St × Int) × Int := match sfLook curN s.dir with
  | none => (none, 4)
  | some _ => match ptF (sfRead s curN) with
    | none => (none, 114)
    | some n => match rpS (sfRead s (nmF man n)) with
      | none => (none, 114)
      | some st => (some (st, n), 0)
theorem man_len {n : Int} : (nmF man n).length ≤ 17 := by
  by_cases h : 1 ≤ n ∧ n ≤ 1099511627776
  · rw [nmF_yes h.1 h.2, List.length_append]
    have := dec_len (n := n.toNat) (by omega)
    have : man.length = 4 := rfl
    omega
  · rw [nmF_no h]; simp
theorem man_name {n : Int} (h : isNo n = true) : sfName (nmF man n) = true := by
  obtain ⟨h1, h2⟩ := isNo_iff.1 h
  have hl := man_len (n := n)
  have hd := dec_digit n.toNat
  rw [nmF_yes h1 h2] at hl ⊢
  unfold sfName
  rw [Bool.and_eq_true, Bool.and_eq_true]
  refine ⟨⟨decide_eq_true (by rw [List.length_append]; have : man.length = 4 := rfl; omega), decide_eq_true (by omega)⟩, ?_⟩
  rw [List.all_append, Bool.and_eq_true]
  refine ⟨by decide, ?_⟩
  rw [List.all_eq_true]
  intro c hc
  obtain ⟨g1, g2⟩ := hd c hc
  unfold sfOkC
  rw [decide_eq_true g1, decide_eq_true g2]
  simp
theorem man_front {n : Int} (h : isNo n = true) : ∃ r, nmF man n = 109 :: r := by
  obtain ⟨h1, h2⟩ := isNo_iff.1 h
  exact ⟨_, nmF_yes h1 h2⟩
theorem cur_ne {n : Int} (h : isNo n = true) : curN ≠ nmF man n := by
  obtain ⟨r, e⟩ := man_front h
  rw [e]
  unfold curN
  simp
theorem new_ne {n : Int} (h : isNo n = true) : newN ≠ nmF man n := by
  obtain ⟨r, e⟩ := man_front h
  rw [e]
  unfold newN
  simp
theorem cur_bef {n : Int} (h : isNo n = true) : bytesBefore curN (nmF man n) = true := by
  obtain ⟨r, e⟩ := man_front h
  rw [e]
  unfold curN
  simp [bytesBefore]
theorem new_bef {n : Int} (h : isNo n = true) : bytesBefore newN (nmF man n) = true := by
  obtain ⟨r, e⟩ := man_front h
  rw [e]
  unfold newN
  simp [bytesBefore]
theorem bef_cur {n : Int} (h : isNo n = true) : bytesBefore (nmF man n) curN = false := by
  obtain ⟨r, e⟩ := man_front h
  rw [e]
  unfold curN
  simp [bytesBefore]
end Go.Proofs.YtilbffgpniomcaaGreatDoor

/- manifest: a file system that has one state, and edits behind it: pure. -/
namespace Go.Proofs.YtilbffgpniomcaaGreatDoor
open Go.RowKit Go.Shelf

theorem bits_nm (l : List Ru) (a b c : Int) : (nmE (edS ⟨l, a, b, c⟩)).length = 3 * l.length + 5 := by
  unfold nmE edS
  simp only [List.length_cons, List.length_append, List.length_nil, ru_len]
  omega
theorem stB_len {st : St} (h : okSt st) : (frm (stB st)).length ≤ 2100 := by
  obtain ⟨h1, h2, h3, h4, h5, h6, h7, h8⟩ := h
  obtain ⟨l, a, b, c⟩ := st
  simp only at *
  rw [frm_len]
  have := shB_len (nmE (edS ⟨l, a, b, c⟩)) (fun v hv => by
    unfold nmE edS at hv
    simp only [List.length_nil, List.nil_append, List.mem_cons, List.mem_append, List.not_mem_nil, or_false] at hv
    rcases hv with rfl | rfl | hv | rfl | rfl | rfl
    · simp
    · omega
    · obtain ⟨r, hr, hv⟩ := List.mem_flatMap.1 hv
      have := h7 r hr
      unfold fitR at this
      simp only [Ru.n, List.mem_cons, List.not_mem_nil, or_false] at hv
      omega
    · omega
    · omega
    · omega)
  rw [bits_nm] at this
  unfold stB
  omega
theorem ptB_len {n : Int} (h : isNo n = true) : (frm (sh n.toNat)).length ≤ 18 := by
  obtain ⟨h1, h2⟩ := isNo_iff.1 h
  rw [frm_len]
  have := sh_len10 (n := n.toNat) (by omega)
  omega
/-- A pointer and what it names, all synced. -/
def SV (room : Int) (nm fb pb : List UInt8) (sy : Nat) : SfS := ⟨room, [(curN, 1), (nm, 0)], [(curN, 1), (nm, 0)], [], 0, 0, [(fb, sy), (pb, pb.length)]⟩
theorem save_zero {room n : Int} {st : St} (hr : 10000 ≤ room) (h : okSt st) (hn : isNo n = true) :
    mfSave (sfZ room) n st = (0, SV room (nmF man n) (frm (stB st)) (frm (sh n.toNat)) (frm (stB st)).length) := by
  have hl := stB_len h
  have hp := ptB_len hn
  have n1 := man_name hn
  have n2 := cur_ne hn
  have n3 := new_ne hn
  have n4 := cur_bef hn
  have n5 := new_bef hn
  unfold mfSave
  rw [if_pos ⟨h, hn⟩]
  unfold mfSv mfCre mfExt
  generalize nmF man n = nm at *
  generalize hfb : frm (stB st) = fb at *
  have c1 : sfCreate (sfZ room) nm = (0, ⟨room, [(nm, 0)], [], [⟨[], nm, some 0⟩], 0, 0, [([], 0)]⟩) := by
    unfold sfCreate
    rw [if_neg (by rw [n1]; simp), if_neg (by simp [sfZ, sfLook]), if_neg (by simp [sfZ])]
    rfl
  have k1 : ∀ fs, sfLook nm (⟨room, [(nm, 0)], [], [⟨[], nm, some 0⟩], 0, 0, fs⟩ : SfS).dir = some 0 := fun fs => by simp [sfLook]
  have c2 : sfAppend ⟨room, [(nm, 0)], [], [⟨[], nm, some 0⟩], 0, 0, [([], 0)]⟩ nm fb = (0, ⟨room, [(nm, 0)], [], [⟨[], nm, some 0⟩], 0, 0, [(fb, 0)]⟩) := by
    unfold sfAppend
    rw [k1]
    simp only
    rw [if_neg (by simp [SfS.fl]; omega), if_neg (by simp [SfS.fl, sfUsed]; omega)]
    rfl
  have c3 : sfSync ⟨room, [(nm, 0)], [], [⟨[], nm, some 0⟩], 0, 0, [(fb, 0)]⟩ nm = (0, ⟨room, [(nm, 0)], [], [⟨[], nm, some 0⟩], 0, 0, [(fb, fb.length)]⟩) := by
    unfold sfSync
    rw [k1]
    rfl
  have c4 : sfSyncDir ⟨room, [(nm, 0)], [], [⟨[], nm, some 0⟩], 0, 0, [(fb, fb.length)]⟩ = (0, ⟨room, [(nm, 0)], [(nm, 0)], [], 0, 0, [(fb, fb.length)]⟩) := rfl
  rw [c1, sfThen_0, c2, sfThen_0, c3, sfThen_0, c4, sfThen_0]
  unfold mfRm
  have c5 : sfRemove ⟨room, [(nm, 0)], [(nm, 0)], [], 0, 0, [(fb, fb.length)]⟩ newN = (4, ⟨room, [(nm, 0)], [(nm, 0)], [], 0, 0, [(fb, fb.length)]⟩) := by
    unfold sfRemove
    rw [show sfLook newN (⟨room, [(nm, 0)], [(nm, 0)], [], 0, 0, [(fb, fb.length)]⟩ : SfS).dir = none by simp [sfLook, Ne.symm n3]]
  rw [c5, if_pos (.inr rfl)]
  unfold mfPt mfCre mfExt
  generalize frm (sh n.toNat) = pb at *
  have d1 : sfDel [] [(nm, 0)] = [(nm, 0)] := by
    unfold sfDel
    have : nm ≠ [] := fun e => by rw [e] at n1; simp [sfName] at n1
    simp [this]
  have d2 : sfDel newN [(nm, 0)] = [(nm, 0)] := by unfold sfDel; simp [Ne.symm n3]
  have d3 : sfDo [(nm, 0)] ⟨[], newN, some 1⟩ = [(newN, 1), (nm, 0)] := by
    unfold sfDo sfPut
    simp only
    rw [d1, d2]
    unfold sfIns
    rw [if_pos n5]
  have d4 : sfDo [(newN, 1), (nm, 0)] ⟨newN, curN, some 1⟩ = [(curN, 1), (nm, 0)] := by
    unfold sfDo sfPut
    simp only
    have : sfDel newN [(newN, 1), (nm, 0)] = [(nm, 0)] := by unfold sfDel; simp [Ne.symm n3]
    rw [this]
    have : sfDel curN [(nm, 0)] = [(nm, 0)] := by unfold sfDel; simp [Ne.symm n2]
    rw [this]
    unfold sfIns
    rw [if_pos n4]
  have e1 : sfCreate ⟨room, [(nm, 0)], [(nm, 0)], [], 0, 0, [(fb, fb.length)]⟩ newN = (0, ⟨room, [(newN, 1), (nm, 0)], [(nm, 0)], [⟨[], newN, some 1⟩], 0, 0, [(fb, fb.length), ([], 0)]⟩) := by
    unfold sfCreate
    rw [if_neg (by decide), if_neg (by simp [sfLook, Ne.symm n3]), if_neg (by simp), ← d3]
    rfl
  have k2 : ∀ fs, sfLook newN (⟨room, [(newN, 1), (nm, 0)], [(nm, 0)], [⟨[], newN, some 1⟩], 0, 0, fs⟩ : SfS).dir = some 1 := fun fs => by simp [sfLook]
  have e2 : sfAppend ⟨room, [(newN, 1), (nm, 0)], [(nm, 0)], [⟨[], newN, some 1⟩], 0, 0, [(fb, fb.length), ([], 0)]⟩ newN pb = (0, ⟨room, [(newN, 1), (nm, 0)], [(nm, 0)], [⟨[], newN, some 1⟩], 0, 0, [(fb, fb.length), (pb, 0)]⟩) := by
    unfold sfAppend
    rw [k2]
    simp only
    rw [if_neg (by simp [SfS.fl]; omega), if_neg (by simp [SfS.fl, sfUsed]; omega)]
    rfl
  have e3 : sfSync ⟨room, [(newN, 1), (nm, 0)], [(nm, 0)], [⟨[], newN, some 1⟩], 0, 0, [(fb, fb.length), (pb, 0)]⟩ newN = (0, ⟨room, [(newN, 1), (nm, 0)], [(nm, 0)], [⟨[], newN, some 1⟩], 0, 0, [(fb, fb.length), (pb, pb.length)]⟩) := by
    unfold sfSync
    rw [k2]
    rfl
  have e4 : sfRename ⟨room, [(newN, 1), (nm, 0)], [(nm, 0)], [⟨[], newN, some 1⟩], 0, 0, [(fb, fb.length), (pb, pb.length)]⟩ newN curN = (0, ⟨room, [(curN, 1), (nm, 0)], [(nm, 0)], [⟨[], newN, some 1⟩, ⟨newN, curN, some 1⟩], 0, 0, [(fb, fb.length), (pb, pb.length)]⟩) := by
    unfold sfRename
    rw [if_neg (by decide), k2, ← d4]
    rfl
  have e5 : sfSyncDir ⟨room, [(curN, 1), (nm, 0)], [(nm, 0)], [⟨[], newN, some 1⟩, ⟨newN, curN, some 1⟩], 0, 0, [(fb, fb.length), (pb, pb.length)]⟩ = (0, SV room nm fb pb fb.length) := by
    unfold sfSyncDir sfPlan sfSettle SV
    simp only [if_pos, List.take, List.length_cons, List.length_nil, List.foldl_cons, List.foldl_nil]
    rw [d3, d4]
  rw [e1, sfThen_0, e2, sfThen_0, e3, sfThen_0, e4, sfThen_0, e5]
theorem sv_cur (room : Int) (nm fb pb : List UInt8) (sy : Nat) : sfLook curN (SV room nm fb pb sy).dir = some 1 := by simp [SV, sfLook]
theorem sv_nm (room : Int) {nm : List UInt8} (h : curN ≠ nm) (fb pb : List UInt8) (sy : Nat) : sfLook nm (SV room nm fb pb sy).dir = some 0 := by simp [SV, sfLook, h]
theorem sv_rdc (room : Int) (nm fb pb : List UInt8) (sy : Nat) : sfRead (SV room nm fb pb sy) curN = pb := by unfold sfRead; rw [sv_cur]; rfl
theorem sv_rdn (room : Int) {nm : List UInt8} (h : curN ≠ nm) (fb pb : List UInt8) (sy : Nat) : sfRead (SV room nm fb pb sy) nm = fb := by unfold sfRead; rw [sv_nm room h]; rfl
theorem sv_load {room n : Int} (hn : isNo n = true) (fb : List UInt8) (sy : Nat) {st : St} (h : rpS fb = some st) : mfLd (SV room (nmF man n) fb (frm (sh n.toNat)) sy) = (some (st, n), 0) := by
  obtain ⟨h1, h2⟩ := isNo_iff.1 hn
  unfold mfLd
  rw [sv_cur]
  simp only
  rw [sv_rdc, pt_iff.2 ⟨h1, h2, rfl⟩]
  simp only
  rw [sv_rdn room (cur_ne hn), h]
theorem sv_again {room n : Int} (hn : isNo n = true) (fb pb : List UInt8) (sy : Nat) {st : St} (h : okSt st) : mfSave (SV room (nmF man n) fb pb sy) n st = (80, SV room (nmF man n) fb pb sy) := by
  unfold mfSave
  rw [if_pos ⟨h, hn⟩]
  unfold mfSv mfCre
  have : sfCreate (SV room (nmF man n) fb pb sy) (nmF man n) = (80, SV room (nmF man n) fb pb sy) := by
    unfold sfCreate
    rw [if_neg (by rw [man_name hn]; simp), if_pos (by rw [sv_nm room (cur_ne hn)]; rfl)]
  have h2 : sfThen (80, SV room (nmF man n) fb pb sy) (fun t => mfExt t (nmF man n) (stB st)) = (80, SV room (nmF man n) fb pb sy) := sfThen_no (by simp) _
  rw [this, h2, sfThen_no (by simp)]
theorem sv_ext {room : Int} {nm : List UInt8} (h : curN ≠ nm) (fb pb d : List UInt8) (sy : Nat) (hl : fb.length + (frm d).length ≤ 1048576) (hr : ((pb.length + fb.length + (frm d).length : Nat) : Int) ≤ room) :
    mfExt (SV room nm fb pb sy) nm d = (0, SV room nm (fb ++ frm d) pb (fb ++ frm d).length) := by
  unfold mfExt
  have e1 : (SV room nm fb pb sy).fl 0 = (fb, sy) := rfl
  have e2 : sfUsed (SV room nm fb pb sy) = pb.length + fb.length := by simp [sfUsed, SV, SfS.fl]
  have e3 : (SV room nm fb pb sy).room = room := rfl
  have : sfAppend (SV room nm fb pb sy) nm (frm d) = (0, SV room nm (fb ++ frm d) pb sy) := by
    unfold sfAppend
    rw [sv_nm room h]
    simp only
    rw [e1, e2, e3, if_neg (by simp only; omega), if_neg (by omega)]
    rfl
  rw [this, sfThen_0]
  unfold sfSync
  rw [sv_nm room h]
  rfl
/-- Frames that all make edits. -/
theorem fm_cat {ds : List (List UInt8)} (h : ∀ d ∈ ds, d.length ≤ 65535) : fmS (cat ds) = ds := by
  unfold fmS
  have h2 := en_ge ds ds.length (Nat.le_refl _)
  have e : en ds ds.length = (cat ds).length := by unfold en; rw [List.take_length]
  have := al_cut ds.length ds (cat ds).length ((cat ds).length + 1) (Nat.le_refl _) h (by omega) (.inl rfl) (by omega)
  rw [List.take_length] at this
  rw [this, List.take_length, List.map_map]
  exact List.map_id _
theorem fm_cut {ds : List (List UInt8)} {x : List UInt8} (h : ∀ d ∈ ds, d.length ≤ 65535) (hx : x.length ≤ 65535) {c : Nat} (hc : c < (frm x).length) : fmS (cat ds ++ (frm x).take c) = ds := by
  have h2 := en_ge ds ds.length (Nat.le_refl _)
  have e : en (ds ++ [x]) ds.length = (cat ds).length := by unfold en; rw [List.take_left]
  have ec : cat (ds ++ [x]) = cat ds ++ frm x := by rw [cat_append]; simp [cat]
  have e2 : en (ds ++ [x]) (ds.length + 1) = (cat ds).length + (frm x).length := by unfold en; rw [List.take_of_length_le (by simp), ec, List.length_append]
  have h2' : 8 * ds.length ≤ (cat ds).length := by have : en ds ds.length = (cat ds).length := by unfold en; rw [List.take_length]
                                                   omega
  have hl : (cat ds ++ (frm x).take c).length = (cat ds).length + c := by simp; omega
  have ht : (cat (ds ++ [x])).take ((cat ds).length + c) = cat ds ++ (frm x).take c := by
    rw [ec, List.take_append, List.take_of_length_le (by omega)]
    congr 2
    omega
  have := al_cut ds.length (ds ++ [x]) ((cat ds).length + c) ((cat ds).length + c + 1) (by simp) (fun d hd => by
    rcases List.mem_append.1 hd with hd | hd
    · exact h d hd
    · simp only [List.mem_singleton] at hd; rw [hd]; exact hx) (by omega) (.inr (by omega)) (by omega)
  unfold fmS
  rw [hl, ← ht, this, List.take_left, List.map_map]
  exact List.map_id _
theorem rpF_app : ∀ (ds : List (List UInt8)) (s : St) (m : Bool) {t : St} {d : List UInt8} {x : Ed} {u : St}, (rpF ds s m = (t, true) ∧ (∀ e, rpF (ds ++ [e]) s m = rpF [e] t true)) → edR d = some x → (apS t x).1 = some u → rpF (ds ++ [d]) s m = (u, true) := fun ds s m t d x u h h1 h2 => by
  rw [h.2, rpF_on [] t true h1 h2, rpF]
/-- All frames made edits. -/
def RpA (ds : List (List UInt8)) (t : St) : Prop := ∀ es, rpF (ds ++ es) st0 false = rpF es t true
theorem RpA.st {ds : List (List UInt8)} {t : St} (h : RpA ds t) : rpF ds st0 false = (t, true) := by
  have := h []
  rwa [List.append_nil, rpF] at this
theorem RpA.rpS {ds : List (List UInt8)} {t : St} (h : RpA ds t) {b : List UInt8} (hb : fmS b = ds) : rpS b = some t := by
  unfold Go.Proofs.YtilbffgpniomcaaGreatDoor.rpS
  rw [hb, h.st]
  rfl
theorem RpA.app {ds : List (List UInt8)} {t u : St} {d : List UInt8} {x : Ed} (h : RpA ds t) (h1 : edR d = some x) (h2 : (apS t x).1 = some u) : RpA (ds ++ [d]) u := fun es => by
  rw [List.append_assoc, h, List.singleton_append, rpF_on es t true h1 h2]
theorem edS_wr {st : St} (h : okSt st) : edW (edS st) = some (stB st) ∧ edR (stB st) = some (edS st) := by
  obtain ⟨h1, h2, h3, h4, h5, h6, h7, h8⟩ := h
  obtain ⟨l, a, b, c⟩ := st
  simp only at *
  have hv : ∀ v ∈ nmE (edS ⟨l, a, b, c⟩), 0 ≤ v ∧ v ≤ 9223372036854775807 := fun v hv => by
    unfold nmE edS at hv
    simp only [List.length_nil, List.nil_append, List.mem_cons, List.mem_append, List.not_mem_nil, or_false] at hv
    rcases hv with rfl | rfl | hv | rfl | rfl | rfl
    · simp
    · omega
    · obtain ⟨r, hr, hv⟩ := List.mem_flatMap.1 hv
      have := h7 r hr
      unfold fitR at this
      simp only [Ru.n, List.mem_cons, List.not_mem_nil, or_false] at hv
      omega
    · omega
    · omega
    · omega
  have e : edW (edS ⟨l, a, b, c⟩) = some (stB ⟨l, a, b, c⟩) := by
    unfold edW
    rw [if_neg (by simp [edS]; omega), if_pos (by unfold okN; rw [List.all_eq_true]; intro v q; exact decide_eq_true (hv v q).1)]
    rfl
  exact ⟨e, edR_wr e (fun v q => (hv v q).2)⟩
theorem ap_st0 {st : St} (h : okSt st) : apS st0 (edS st) = (some st, 0) := by
  have h' := h
  obtain ⟨h1, h2, h3, h4, h5, h6, h7, h8⟩ := h
  have hw : wk st.ru := ahd_wk (h8.imp fun q => q.1)
  rw [apS_sorted st0_ok (l := []) (by rfl) (by simp only [edS, st0]; omega) hw (by simp [edS])]
  rw [if_pos (by simpa [edS] using h')]
  rfl
theorem rpa_one {st : St} (h : okSt st) : RpA [stB st] st := fun es => by
  rw [List.singleton_append, rpF_on es st0 false (edS_wr h).2 (by rw [ap_st0 h])]
theorem stB_le {st : St} (h : okSt st) : (stB st).length ≤ 65535 := by have := stB_len h; rw [frm_len] at this; omega
end Go.Proofs.YtilbffgpniomcaaGreatDoor

/- ManifestEdits, plainly: an edit is appended, something fails, a crash comes. -/
namespace Go.Proofs.YtilbffgpniomcaaGreatDoor
open Go.RowKit Go.Shelf

theorem dropF_mem : ∀ {dr : List Int} {l l' : List Ru}, dropF l dr = some l' → ∀ f ∈ dr, ∃ r ∈ l, r.f = f
  | [], _, _, _, f, hf => by cases hf
  | g :: dr, l, l', h, f, hf => by
    rw [dropF] at h
    unfold drop1 at h
    by_cases ha : l.any (fun r => decide (r.f = g)) = true
    · rw [if_pos ha] at h
      simp only at h
      rcases List.mem_cons.1 hf with rfl | hf
      · obtain ⟨r, hr, e⟩ := List.any_eq_true.1 ha
        exact ⟨r, hr, of_decide_eq_true e⟩
      · obtain ⟨r, hr, e⟩ := dropF_mem h f hf
        exact ⟨r, (List.mem_filter.1 hr).1, e⟩
    · rw [if_neg ha] at h
      cases h
theorem apS_parts {s t : St} {x : Ed} {c : Int} (h : apS s x = (some t, c)) : okSt s ∧ okSt t ∧ (∃ l, dropF s.ru x.dr = some l) ∧ t.lo = x.lo ∧ t.ne = x.ne ∧ t.ma = x.ma := by
  unfold apS at h
  split at h
  · rename_i ho
    cases hd : dropF s.ru x.dr with
    | none => rw [hd] at h; simp at h
    | some l =>
      rw [hd] at h
      simp only at h
      split at h
      · simp at h
      · split at h
        · rename_i ht
          simp only [Prod.mk.injEq, Option.some.injEq] at h
          obtain ⟨rfl, _⟩ := h
          exact ⟨ho, ht, ⟨l, rfl⟩, rfl, rfl, rfl⟩
        · simp at h
  · simp at h
/-- An edit that can be applied has bytes. -/
theorem apS_edW {s t : St} {x : Ed} (h : apS s x = (some t, 0)) : ∃ b, edW x = some b ∧ edR b = some x ∧ b.length ≤ 2700 := by
  obtain ⟨ho, ht, ⟨l, hd⟩, e1, e2, e3⟩ := apS_parts h
  have hm := (apS_ok h).mem
  have hln : ¬ (64 < x.dr.length ∨ 64 < x.ad.length) := fun z => by rw [apS_long ho z] at h; simp at h
  obtain ⟨o1, o2, o3, o4, o5, o6, o7, o8⟩ := ho
  obtain ⟨t1, t2, t3, t4, t5, t6, t7, t8⟩ := ht
  have hv : ∀ v ∈ nmE x, 0 ≤ v ∧ v ≤ 9223372036854775807 := fun v hv => by
    unfold nmE at hv
    simp only [List.mem_cons, List.mem_append, List.not_mem_nil, or_false] at hv
    rcases hv with rfl | hv | rfl | hv | rfl | rfl | rfl
    · omega
    · obtain ⟨r, hr, e⟩ := dropF_mem hd v hv
      have := o7 r hr
      unfold fitR at this
      omega
    · omega
    · obtain ⟨r, hr, hv⟩ := List.mem_flatMap.1 hv
      have := t7 r (hm r hr)
      unfold fitR at this
      simp only [Ru.n, List.mem_cons, List.not_mem_nil, or_false] at hv
      omega
    · omega
    · omega
    · omega
  have e : edW x = some (shB (nmE x)) := by
    unfold edW
    rw [if_neg hln, if_pos (by unfold okN; rw [List.all_eq_true]; intro v q; exact decide_eq_true (hv v q).1)]
  refine ⟨_, e, edR_wr e (fun v q => (hv v q).2), ?_⟩
  have := shB_len (nmE x) hv
  rw [nmE_len] at this
  omega
def SVf (room : Int) (nm fb pb : List UInt8) (sy : Nat) (l f : Int) : SfS := ⟨room, [(curN, 1), (nm, 0)], [(curN, 1), (nm, 0)], [], l, f, [(fb, sy), (pb, pb.length)]⟩
theorem svf_fail (room : Int) (nm fb pb : List UInt8) (sy : Nat) (n e : Int) (he : e = 81 ∨ e = 82) : (sfFail (SV room nm fb pb sy) n e).2 = SVf room nm fb pb sy (if n < 0 then 0 else n) (if n < 0 then 0 else e) := by
  unfold sfFail
  rw [if_neg (by omega)]
  split <;> rfl
theorem svf_nm (room : Int) {nm : List UInt8} (h : curN ≠ nm) (fb pb : List UInt8) (sy : Nat) (l f : Int) : sfLook nm (SVf room nm fb pb sy l f).dir = some 0 := by simp [SVf, sfLook, h]
theorem svf_plan (room : Int) (nm fb pb : List UInt8) (sy : Nat) (l f : Int) : ∃ l' f', sfPlan (SVf room nm fb pb sy l f) = ((sfPlan (SVf room nm fb pb sy l f)).1, SVf room nm fb pb sy l' f') := by
  unfold sfPlan
  split
  · exact ⟨l, f, rfl⟩
  · split
    · exact ⟨l - 1, f, rfl⟩
    · exact ⟨l, 0, rfl⟩
/-- What an edit's append leaves, whatever fails. -/
theorem svf_ext {room : Int} {nm : List UInt8} (h : curN ≠ nm) (fb pb d : List UInt8) (l f : Int) (hl : fb.length + (frm d).length ≤ 1048576) (hr : ((pb.length + fb.length + (frm d).length : Nat) : Int) ≤ room) :
    ∃ c k sy l' f', mfExt (SVf room nm fb pb fb.length l f) nm d = (c, SVf room nm (fb ++ (frm d).take k) pb sy l' f') ∧ fb.length ≤ sy ∧ sy ≤ (fb ++ (frm d).take k).length ∧ k ≤ (frm d).length ∧ (c = 0 → k = (frm d).length ∧ sy = (fb ++ frm d).length) := by
  obtain ⟨l1, f1, hp⟩ := svf_plan room nm fb pb fb.length l f
  have e1 : (SVf room nm fb pb fb.length l f).fl 0 = (fb, fb.length) := rfl
  have e2 : sfUsed (SVf room nm fb pb fb.length l f) = pb.length + fb.length := by simp [sfUsed, SVf, SfS.fl]
  have e3 : (SVf room nm fb pb fb.length l f).room = room := rfl
  have ha : sfAppend (SVf room nm fb pb fb.length l f) nm (frm d) = if (sfPlan (SVf room nm fb pb fb.length l f)).1 = 0 then (0, SVf room nm (fb ++ frm d) pb fb.length l1 f1) else ((sfPlan (SVf room nm fb pb fb.length l f)).1, SVf room nm fb pb fb.length l1 f1) := by
    unfold sfAppend
    rw [svf_nm room h]
    simp only
    rw [e1, e2, e3, if_neg (by simp only; omega), if_neg (by omega)]
    split
    · rw [hp]; rfl
    · exact hp
  unfold mfExt
  rw [ha]
  by_cases c1 : (sfPlan (SVf room nm fb pb fb.length l f)).1 = 0
  · rw [if_pos c1, sfThen_0]
    obtain ⟨l2, f2, hp2⟩ := svf_plan room nm (fb ++ frm d) pb fb.length l1 f1
    have e4 : (SVf room nm (fb ++ frm d) pb fb.length l1 f1).fl 0 = (fb ++ frm d, fb.length) := rfl
    have hs : sfSync (SVf room nm (fb ++ frm d) pb fb.length l1 f1) nm = if (sfPlan (SVf room nm (fb ++ frm d) pb fb.length l1 f1)).1 = 0 then (0, SVf room nm (fb ++ frm d) pb (fb ++ frm d).length l2 f2) else ((sfPlan (SVf room nm (fb ++ frm d) pb fb.length l1 f1)).1, SVf room nm (fb ++ frm d) pb fb.length l2 f2) := by
      unfold sfSync
      rw [svf_nm room h]
      simp only
      rw [e4]
      split
      · rw [hp2]; rfl
      · exact hp2
    rw [hs]
    have ht : (frm d).take (frm d).length = frm d := List.take_length
    by_cases c2 : (sfPlan (SVf room nm (fb ++ frm d) pb fb.length l1 f1)).1 = 0
    · rw [if_pos c2]
      exact ⟨0, (frm d).length, (fb ++ frm d).length, l2, f2, by rw [ht], by simp, by rw [ht]; omega, Nat.le_refl _, fun _ => ⟨rfl, rfl⟩⟩
    · rw [if_neg c2]
      exact ⟨_, (frm d).length, fb.length, l2, f2, by rw [ht], by omega, by rw [ht]; simp, Nat.le_refl _, fun z => absurd z c2⟩
  · rw [if_neg c1]
    exact ⟨_, 0, fb.length, l1, f1, (sfThen_no (r := ((sfPlan (SVf room nm fb pb fb.length l f)).1, SVf room nm fb pb fb.length l1 f1)) c1 _).trans (by simp), by omega, by simp, by omega, fun z => absurd z c1⟩
theorem svf_crash (room : Int) (nm fb pb : List UInt8) (sy : Nat) (l f : Int) (n : Int) (ks : List Int) (hs : sy ≤ fb.length) : ∃ c, sy ≤ c ∧ c ≤ fb.length ∧ sfCrash (SVf room nm fb pb sy l f) n ks = SVf room nm (fb.take c) pb c l 0 := by
  have hk : ∀ k : Int, sfCut (pb, pb.length) k = (pb, pb.length) := fun k => by
    unfold sfCut
    simp
  refine ⟨sy + min (max (ks.tail.headD 0) 0).toNat (fb.length - sy), by omega, by omega, ?_⟩
  unfold sfCrash sfSettle
  simp only [SVf, List.take_nil, List.foldl_nil]
  unfold sfCuts
  unfold sfCuts
  unfold sfCuts
  simp only [List.getD_cons_succ, List.getD_cons_zero, List.set_cons_succ, List.set_cons_zero]
  rw [hk]
  rfl
theorem svf_look (room : Int) (nm fb pb : List UInt8) (sy : Nat) (l f : Int) : mfLd (SVf room nm fb pb sy l f) = mfLd (SV room nm fb pb sy) := rfl
theorem svf_len {room : Int} {nm fb pb : List UInt8} {sy : Nat} {l f : Int} (h1 : fb.length ≤ 100000) (h2 : pb.length ≤ 1000) (n : List UInt8) : (sfRead (SVf room nm fb pb sy l f) n).length ≤ 1000000 := by
  have hf : ∀ i, ((SVf room nm fb pb sy l f).fl i).1.length ≤ 100000 := fun i => by
    match i with
    | 0 => simp [SVf, SfS.fl]; omega
    | 1 => simp [SVf, SfS.fl]; omega
    | i + 2 => simp [SVf, SfS.fl]
  unfold sfRead
  split
  · simp
  · exact Nat.le_trans (hf _) (by decide)
theorem no1 : isNo 1 = true := rfl
/-- The whole. -/
theorem edits_pure {s t : St} {x : Ed} (hs : okSt s) (ha : apS s x = (some t, 0)) (fail ops : Int) (ks : List Int) :
    (mfLd (sfCrash (mfApp (sfFail (mfSave (sfZ 1048576) 1 s).2 fail 81).2 1 x).2 ops ks) = (some (s, 1), 0) ∧ (mfApp (sfFail (mfSave (sfZ 1048576) 1 s).2 fail 81).2 1 x).1 ≠ 0 ∨ mfLd (sfCrash (mfApp (sfFail (mfSave (sfZ 1048576) 1 s).2 fail 81).2 1 x).2 ops ks) = (some (t, 1), 0)) ∧
    ∀ nm, (sfRead (sfCrash (mfApp (sfFail (mfSave (sfZ 1048576) 1 s).2 fail 81).2 1 x).2 ops ks) nm).length ≤ 1000000 := by
  obtain ⟨b, hb, hbr, hbl⟩ := apS_edW ha
  have h1 := stB_len hs
  have h2 := ptB_len no1
  have hbf : (frm b).length ≤ 2708 := by rw [frm_len]; omega
  rw [save_zero (by decide) hs no1]
  simp only
  rw [svf_fail _ _ _ _ _ _ _ (.inl rfl)]
  obtain ⟨c, k, sy, l', f', he, g1, g2, g3, g4⟩ := svf_ext (room := 1048576) (cur_ne no1) (frm (stB s)) (frm (sh (1 : Int).toNat)) b (if fail < 0 then 0 else fail) (if fail < 0 then 0 else 81) (by omega) (by omega)
  have he' : mfApp (SVf 1048576 (nmF man 1) (frm (stB s)) (frm (sh (1 : Int).toNat)) (frm (stB s)).length (if fail < 0 then 0 else fail) (if fail < 0 then 0 else 81)) 1 x = (c, SVf 1048576 (nmF man 1) (frm (stB s) ++ (frm b).take k) (frm (sh (1 : Int).toNat)) sy l' f') := by
    unfold mfApp
    rw [hb]
    exact he
  rw [he']
  simp only
  obtain ⟨q, q1, q2, hc⟩ := svf_crash 1048576 (nmF man 1) (frm (stB s) ++ (frm b).take k) (frm (sh (1 : Int).toNat)) sy l' f' ops ks g2
  rw [hc, svf_look]
  have hcat : frm (stB s) = cat [stB s] := by simp [cat]
  have hds : ∀ d ∈ [stB s], d.length ≤ 65535 := fun d hd => by simp only [List.mem_singleton] at hd; rw [hd]; exact stB_le hs
  have hq : (frm (stB s) ++ (frm b).take k).take q = frm (stB s) ++ (frm b).take (min (q - (frm (stB s)).length) k) := by
    rw [List.take_append, List.take_of_length_le (by omega), List.take_take]
  refine ⟨?_, fun nm => svf_len (by rw [List.length_take, List.length_append, List.length_take]; omega) (by omega) nm⟩
  obtain ⟨mm, hmm⟩ : ∃ m, m = min (q - (frm (stB s)).length) k := ⟨_, rfl⟩
  rw [hq, ← hmm]
  by_cases hm : mm < (frm b).length
  · refine .inl ⟨sv_load no1 _ _ ((rpa_one hs).rpS (by rw [hcat]; exact fm_cut hds (by omega) hm)), fun z => ?_⟩
    obtain ⟨z1, z2⟩ := g4 z
    rw [z1, List.take_length, List.length_append] at q2
    rw [List.length_append] at z2
    omega
  · refine .inr (sv_load no1 _ _ (((rpa_one hs).app hbr (by rw [ha])).rpS ?_))
    rw [List.take_of_length_le (by omega), hcat, show cat [stB s] ++ frm b = cat ([stB s] ++ [b]) by rw [cat_append]; simp [cat]]
    refine fm_cat (fun d hd => ?_)
    simp only [List.cons_append, List.nil_append, List.mem_cons, List.not_mem_nil, or_false] at hd
    rcases hd with rfl | rfl
    · exact stB_le hs
    · omega
end Go.Proofs.YtilbffgpniomcaaGreatDoor
