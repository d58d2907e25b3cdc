/- A file system: Crash. -/
import Derived.Test.YtijablmejjepaaaSFB
namespace Go.Proofs.Ytijablmejjepaaa
open Go.RowKit Go.Maps Go.Sort

/-- Numbers that a slice reads. -/
def KReads (w : World) (v : Value) (ks : List Int) : Prop := ∃ a cap, v = .slice a ks.length cap ∧ ks.length ≤ maxLen ∧ (ks = [] ∨ ∃ b off, a = some ⟨b, off, none⟩ ∧ b < w.heap.size ∧ ∀ j (h : j < ks.length), w.cell? ⟨b, off + j, none⟩ = some (.int .i64 ks[j]))
theorem KReads.keepB {w w' : World} {v : Value} {l : List Int} (h : KReads w v l) (hk : ∀ k, v.ownBlock = some k → k < w.heap.size → w'.heap[k]? = w.heap[k]?) (hs : w.heap.size ≤ w'.heap.size) : KReads w' v l := by
  obtain ⟨a, cap, rfl, h1, h2⟩ := h
  refine ⟨a, cap, rfl, h1, ?_⟩
  rcases h2 with h2 | ⟨b, off, rfl, h3, h4⟩
  · exact .inl h2
  · exact .inr ⟨b, off, rfl, by omega, fun j hj => (World.cell?_of_block (hk b rfl h3)).trans (h4 j hj)⟩
theorem wpList_clear_sf {w : World} {ops : Array Oper} {rest : List Oper} {o : Oper} {a : Act} {Q : Exit → Act → World → Prop} (hg : o.guard = none) (m : Operand) (hop : o.op = Op.call { callee := Callee.builtin Builtin.clear, args := #[m], argTypes := #[40] }) (b : Nat) (bl : Nat → Nat) (l : List (List UInt8 × Nat))
    (hm : a.eval m = .map (some b)) (h : SfMap w b bl l) (hK : ∀ w', SfMap w' b bl [] → w.mapTurned w' b → wpList Try.prog ops Q rest (a.put o.dst (.tuple #[])) w') : wpList Try.prog ops Q (o :: rest) a w := by
  refine wpList_plain hg fun K' hK' => ?_
  obtain ⟨w', hrun, r1, r2⟩ := h.clear o.type
  unfold Oper.wp
  simp [execOp, hop, resolve, invoke, builtin, hm, hrun, Result.andThen]
  exact hK' _ _ (hK w' r1 r2)
theorem sfSettle_min (s : SfS) (k : Nat) : sfSettle s k = sfSettle s (min k s.pend.length) := by
  unfold sfSettle
  rcases Nat.le_total k s.pend.length with h | h
  · rw [Nat.min_eq_left h]
  · rw [Nat.min_eq_right h, List.take_of_length_le h, List.take_length]
theorem row_str {w : World} {base n : Nat} {a : Option Addr} {cap : Nat} {l : List (List UInt8)} (h : w.ownsRow base 9 1 (.slice a n cap) l.length (l.map sv)) {j : Nat} (hj : j < l.length) : ∃ b, a = some ⟨b, 0, none⟩ ∧ w.cell? ⟨b, j, none⟩ = some (.string ⟨(l[j]).toArray⟩) := by
  have hc := @World.ownsRow.cells w base 9 1 (.slice a n cap) l.length (l.map sv) h
  rcases h.2 with ⟨_, h0⟩ | ⟨g, c, cur, hv, _⟩
  · omega
  · simp at hv
    obtain ⟨rfl, _⟩ := hv
    refine ⟨g, rfl, ?_⟩
    have := hc (g := g) rfl j (sv l[j]) (by simp [hj])
    have ea : (⟨g, 0, none⟩ : Addr).add j = ⟨g, j, none⟩ := by simp [Addr.add]; omega
    rw [ea] at this
    exact this
theorem row_form {w : World} {base n : Nat} {e : TypeId} {v : Value} {xs : List Value} (h : w.ownsRow base e 1 v n xs) : ∃ a c, v = .slice a n c := by
  rcases h.2 with ⟨h1, h2⟩ | ⟨g, cap, cur, hv, _⟩
  · exact ⟨none, 0, by rw [h1, h2]⟩
  · exact ⟨_, cap, hv⟩
theorem row_str' {w : World} {base n N : Nat} {a : Option Addr} {cap : Nat} {l : List (List UInt8 × Nat)} (h : w.ownsRow base 9 1 (.slice a n cap) N (l.map fun p => sv p.1)) (hN : N = l.length) {j : Nat} (hj : j < N) : ∃ b, a = some ⟨b, 0, none⟩ ∧ w.cell? ⟨b, j, none⟩ = some (.string ⟨((l[j]'(hN ▸ hj)).1).toArray⟩) := by
  subst hN
  have e : (l.map fun p => sv p.1) = (l.map (·.1)).map sv := by rw [List.map_map]; rfl
  have el : (l.map (·.1)).length = l.length := List.length_map ..
  rw [e, ← el] at h
  obtain ⟨b, hb, hc⟩ := row_str h (j := j) (by rw [el]; exact hj)
  exact ⟨b, hb, by rw [hc]; simp⟩
theorem row_keepB {w w' : World} {base n : Nat} {e : TypeId} {v : Value} {xs : List Value} (h : w.ownsRow base e 1 v n xs) (hk : ∀ k, base ≤ k → k < w.heap.size → w'.heap[k]? = w.heap[k]?) : w'.ownsRow base e 1 v n xs := by
  have hlt := World.ownsRow.lt h
  obtain ⟨h1, h2⟩ := h
  refine ⟨h1, ?_⟩
  rcases h2 with h2 | ⟨g, cap, cur, rfl, hg, hw, r⟩
  · exact .inl h2
  · exact .inr ⟨g, cap, cur, rfl, hg, (hk g hg (hlt g rfl).2).trans hw, r⟩
theorem drop_head {α : Type} {l : List α} {j : Nat} (hj : j < l.length) : l.drop j = l[j] :: l.drop (j + 1) := (List.getElem_cons_drop hj).symm
theorem headD_drop (ks : List Int) (j : Nat) : (ks.drop j).headD 0 = if h : j < ks.length then ks[j] else 0 := by
  split
  · rename_i h; rw [drop_head h]; rfl
  · rw [List.drop_eq_nil_of_le (by omega)]; rfl
theorem sfCuts_step {dir : List (List UInt8 × Nat)} {ks : List Int} {fls : List (List UInt8 × Nat)} {j : Nat} (hj : j < dir.length) : sfCuts (dir.drop j) (ks.drop j) fls = sfCuts (dir.drop (j + 1)) (ks.drop (j + 1)) (fls.set dir[j].2 (sfCut (fls.getD dir[j].2 ([], 0)) ((ks.drop j).headD 0))) := by
  rw [drop_head hj, sfCuts, List.tail_drop]
def sfFlOk (fls : List (List UInt8 × Nat)) : Prop := ∀ (i : Nat) (f : List UInt8 × Nat), fls[i]? = some f → f.2 ≤ f.1.length ∧ f.1.length ≤ 1048576
theorem sfFlOk.cut {fls : List (List UInt8 × Nat)} (h : sfFlOk fls) (i : Nat) (k : Int) : sfFlOk (fls.set i (sfCut (fls.getD i ([], 0)) k)) := by
  intro j f hj
  by_cases e : i = j
  · subst e
    rcases Nat.lt_or_ge i fls.length with hi | hi
    · rw [List.getElem?_set_self hi] at hj
      obtain rfl : sfCut (fls.getD i ([], 0)) k = f := by simpa using hj
      have hg : fls[i]? = some (fls.getD i ([], 0)) := by rw [List.getD_eq_getElem?_getD, List.getElem?_eq_getElem hi]; rfl
      have := h i _ hg
      unfold sfCut
      simp only [List.length_take]
      omega
    · rw [List.getElem?_eq_none (by simpa using hi)] at hj; cases hj
  · rw [List.getElem?_set_ne e] at hj; exact h j f hj
theorem sfIns_mem {x p : List UInt8 × Nat} : ∀ {l : List (List UInt8 × Nat)}, p ∈ sfIns x l → p = x ∨ p ∈ l
  | [], h => by simp [sfIns] at h; exact .inl h
  | y :: r, h => by
    unfold sfIns at h
    split at h
    · rcases List.mem_cons.1 h with h | h
      · exact .inl h
      · exact .inr h
    · rcases List.mem_cons.1 h with h | h
      · exact .inr (by simp [h])
      · rcases sfIns_mem h with h | h
        · exact .inl h
        · exact .inr (by simp [h])
theorem sfDel_mem {s : List UInt8} {p : List UInt8 × Nat} {l : List (List UInt8 × Nat)} (h : p ∈ sfDel s l) : p ∈ l := (List.mem_filter.1 h).1
theorem sfDo_ok {N : Nat} {l : List (List UInt8 × Nat)} {a : SfA} (hl : ∀ p ∈ l, p.2 < N ∧ p.1.length ≤ 32) (ha : (∀ i, a.file = some i → i < N) ∧ a.gone.length ≤ 32 ∧ a.name.length ≤ 32) : ∀ p ∈ sfDo l a, p.2 < N ∧ p.1.length ≤ 32 := by
  intro p hp
  unfold sfDo at hp
  split at hp
  · exact hl p (sfDel_mem hp)
  · rename_i i hf
    rcases sfIns_mem hp with rfl | hp
    · exact ⟨ha.1 i hf, ha.2.2⟩
    · exact hl p (sfDel_mem (sfDel_mem hp))
theorem sfDo_fold_ok {N : Nat} : ∀ {P : List SfA} {l : List (List UInt8 × Nat)}, (∀ p ∈ l, p.2 < N ∧ p.1.length ≤ 32) → (∀ a ∈ P, (∀ i, a.file = some i → i < N) ∧ a.gone.length ≤ 32 ∧ a.name.length ≤ 32) → ∀ p ∈ P.foldl sfDo l, p.2 < N ∧ p.1.length ≤ 32
  | [], _, hl, _ => hl
  | a :: P, l, hl, hP => by
    rw [List.foldl_cons]
    exact sfDo_fold_ok (sfDo_ok hl (hP a (by simp))) (fun b hb => hP b (by simp [hb]))
set_option maxRecDepth 100000 in
set_option maxHeartbeats 8000000 in
theorem crash_any {w : World} {O : Nat → Prop} {g m1 m2 : Nat} {pv : Value} {bl : Nat → Nat} {vs : Nat → Value} {s : SfS} (h : FsAt w O g m1 m2 pv bl vs s) (hw : SfWf s) (n : Int) (kv : Value) (ks : List Int) (hK : ∀ w', Onl O w w' → KReads w' kv ks) :
    Calls Try.prog 15 #[.pointer (some ⟨g, 0, none⟩), .int .i64 n, kv] w fun e w' => e = .returned (.int .i64 0) ∧ FsTo w O g m1 m2 (sfCrash s n ks) w' := by
  have HF : Hid (FsAt w O g m1 m2 pv bl vs s) := h
  have HW : Hid (SfWf s) := hw
  have HKR : Hid (∀ w', Onl O w w' → KReads w' kv ks) := hK
  obtain ⟨ka, kc, rfl, hkl, -⟩ := hK w (Onl.refl _ _)
  have hkl' : (ks.length : Int) ≤ 9223372036854775807 := by simp only [maxLen] at hkl; omega
  clear hK
  have c0 := h.c0
  have h1 := hw.r1
  obtain ⟨pa, pc, hpv, -⟩ := h.hp.form
  have c3 := h.c3
  rw [hpv] at c3
  have hmx : ∀ ts t w', (Builtin.max_ ts t #[.int .i64 n, .int .i64 0]).run Try.prog w' = .ok (.int .i64 (((max n 0).toNat : Nat) : Int)) w' := by
    intro ts t w'
    simp only [Builtin.max_]
    by_cases hk : n < 0
    · have : (max n 0).toNat = 0 := by omega
      simp [Builtin.max2, this]; omega
    · have : (((max n 0).toNat : Nat) : Int) = n := by omega
      rw [this]
      simp [Builtin.max2]; omega
  have hmn : ∀ ts t w', (Builtin.min_ ts t #[.int .i64 (((max n 0).toNat : Nat) : Int), .int .i64 (s.pend.length : Int)]).run Try.prog w' = .ok (.int .i64 ((min (max n 0).toNat s.pend.length : Nat) : Int)) w' := by
    intro ts t w'
    simp [Builtin.min_, Builtin.min2]
    omega
  unfold sfCrash
  generalize hq : (max n 0).toNat = K at *
  clear hq
  rw [sfSettle_min]
  have hst := settle_any h hw (min K s.pend.length) (Nat.min_le_right _ _)
  have hkp : min K s.pend.length ≤ s.pend.length := Nat.min_le_right _ _
  generalize hq : min K s.pend.length = k at *
  clear hq
  obtain ⟨S1, HS1⟩ := hid_ex (sfSettle s k)
  rw [← HS1.out] at hst ⊢
  clear h hw hpv
  go_enter Try.func15, Try.ntmps15
  go_wp2_with (go_at_call 33; refine (made_cell _ c0 h1).mono ?_; rintro e w' ⟨rfl, hw'⟩; subst w')
  refine hst.mono ?_
  rintro e w2 ⟨rfl, hf2, ho2⟩
  have HF2 : Hid (FsAt w2 O g m1 m2 (.slice none 0 0) bl vs S1) := hf2
  have HO2 : Hid (Onl O w w2) := ho2
  have d1 := HF2.out.c1
  have hm1 := HF2.out.h1
  clear hf2 ho2 hst c3 hmx hmn c0
  go_wp2_with (refine wpList_clear_sf rfl _ rfl m1 bl S1.dir rfl hm1 ?_; intro w3 hm3 hturn3)
  go_frame
  have HO3 : Hid (Onl O w w3) := HO2.out.then ((turned_only hturn3).mono fun k e => e ▸ HF2.out.o1)
  have HF3 : Hid (FsAt w3 O g m1 m2 (.slice none 0 0) bl vs { S1 with dir := [] }) := HF2.out.set1 hturn3.grown.size (fun k hk hne => hturn3.grown.block k (HF2.out.lt k hk) (by simpa using hne)) hm3
  have HS1O : Hid (S1.old.length ≤ 256) := by
    show S1.old.length ≤ 256
    rw [HS1.out]; exact HW.out.ln k
  clear hm3 hturn3 hm1 d1 HF2 HO2
  have d1 := HF3.out.c1
  have d2 := HF3.out.c2
  have HCP : Hid (Calls Try.prog 39 #[.map (some m1), .map (some m2)] w3.drew fun e w' => e = .returned (.tuple #[]) ∧ FsAt w' O g m1 m2 (.slice none 0 0) bl vs { S1 with dir := S1.old } ∧ Onl O w3 w') := by
    have q1 : SfMap w3.drew m1 bl [] := HF3.out.h1
    have q2 : SfMap w3.drew m2 bl S1.old := HF3.out.h2
    refine (copyM_any q1 q2 HF3.out.ne (by have := HS1O.out; simp only [maxLen]; omega)).mono ?_
    rintro e w' ⟨he, h1, h2⟩
    exact ⟨he, FsAt.set1 (s := { S1 with dir := [] }) HF3.out h2.size (fun k hk hne => h2.block k (HF3.out.lt k hk) hne) h1, ⟨h2.os, h2.tape, h2.output, h2.size, fun k hk ho => h2.block k hk (fun e => ho (e ▸ HF3.out.o1))⟩⟩
  refine wp_region_noPanic ?_
  refine wp_region_S 8 (fun _ => True) (fun w' => w'.cell? ⟨g, 1, none⟩ = some (.map (some m1)) ∧ w'.cell? ⟨g, 2, none⟩ = some (.map (some m2))) (by kernel_rfl) ?_ ?_ (fun hHeld => ?_)
  · trivial
  · exact ⟨d1, d2⟩
  refine wpAnyS_take (i := 0) (v := .pointer (some ⟨g, 0, none⟩)) _ rfl (by kernel_rfl) (by kernel_rfl) (by kernel_rfl) (by kernel_rfl) (by kernel_rfl) rfl (fun _ _ _ h => h) (Or.inl ⟨by rfl, ?_⟩) hHeld (fun hHeld => ?_)
  · (intro w1 hSw; have hSw := hSw.1; (try dsimp only at hSw); go_simp)
  simp only [List.getElem_toArray, List.getElem_cons_zero, Act.put, List.setIfInBounds_toArray, List.set_cons_zero, List.set_cons_succ]
  refine wpAnyS_take (i := 1) (v := .pointer (some ⟨g, 0, none⟩)) _ rfl (by kernel_rfl) (by kernel_rfl) (by kernel_rfl) (by kernel_rfl) (by kernel_rfl) rfl (fun _ _ _ h => h) (Or.inl ⟨by rfl, ?_⟩) hHeld (fun hHeld => ?_)
  · (intro w1 hSw; have hSw := hSw.1; (try dsimp only at hSw); go_simp)
  simp only [List.getElem_toArray, List.getElem_cons_succ, List.getElem_cons_zero, Act.put, List.setIfInBounds_toArray, List.set_cons_zero, List.set_cons_succ]
  refine wpAnyS_take (i := 2) (v := .pointer (some ⟨g, 1, none⟩)) _ rfl (by kernel_rfl) (by kernel_rfl) (by kernel_rfl) (by kernel_rfl) (by kernel_rfl) rfl (fun _ _ _ h => h) (Or.inl ⟨by rfl, ?_⟩) hHeld (fun hHeld => ?_)
  · (intro w1 hSw; have hSw := hSw.1; (try dsimp only at hSw); go_simp)
  simp only [List.getElem_toArray, List.getElem_cons_succ, List.getElem_cons_zero, Act.put, List.setIfInBounds_toArray, List.set_cons_zero, List.set_cons_succ]
  refine wpAnyS_take (i := 3) (v := .map (some m1)) true rfl (by kernel_rfl) (by kernel_rfl) (by kernel_rfl) (by kernel_rfl) (by kernel_rfl) (by kernel_rfl) (fun _ _ _ h => h) (Or.inl ⟨by rfl, ?_⟩) hHeld (fun hHeld => ?_)
  · (intro w1 hSw; have hSw2 := hSw.2 rfl; have hSw := hSw.1; (try dsimp only at hSw hSw2); go_simp)
  simp only [List.getElem_toArray, List.getElem_cons_succ, List.getElem_cons_zero, Act.put, List.setIfInBounds_toArray, List.set_cons_zero, List.set_cons_succ]
  refine wpAnyS_take (i := 4) (v := .pointer (some ⟨g, 0, none⟩)) _ rfl (by kernel_rfl) (by kernel_rfl) (by kernel_rfl) (by kernel_rfl) (by kernel_rfl) rfl (fun _ _ _ h => h) (Or.inl ⟨by rfl, ?_⟩) hHeld (fun hHeld => ?_)
  · (intro w1 hSw; have hSw := hSw.1; (try dsimp only at hSw); go_simp)
  simp only [List.getElem_toArray, List.getElem_cons_succ, List.getElem_cons_zero, Act.put, List.setIfInBounds_toArray, List.set_cons_zero, List.set_cons_succ]
  refine wpAnyS_take (i := 5) (v := .pointer (some ⟨g, 0, none⟩)) _ rfl (by kernel_rfl) (by kernel_rfl) (by kernel_rfl) (by kernel_rfl) (by kernel_rfl) rfl (fun _ _ _ h => h) (Or.inl ⟨by rfl, ?_⟩) hHeld (fun hHeld => ?_)
  · (intro w1 hSw; have hSw := hSw.1; (try dsimp only at hSw); go_simp)
  simp only [List.getElem_toArray, List.getElem_cons_succ, List.getElem_cons_zero, Act.put, List.setIfInBounds_toArray, List.set_cons_zero, List.set_cons_succ]
  refine wpAnyS_take (i := 6) (v := .pointer (some ⟨g, 2, none⟩)) _ rfl (by kernel_rfl) (by kernel_rfl) (by kernel_rfl) (by kernel_rfl) (by kernel_rfl) rfl (fun _ _ _ h => h) (Or.inl ⟨by rfl, ?_⟩) hHeld (fun hHeld => ?_)
  · (intro w1 hSw; have hSw := hSw.1; (try dsimp only at hSw); go_simp)
  simp only [List.getElem_toArray, List.getElem_cons_succ, List.getElem_cons_zero, Act.put, List.setIfInBounds_toArray, List.set_cons_zero, List.set_cons_succ]
  refine wpAnyS_take (i := 7) (v := .map (some m2)) true rfl (by kernel_rfl) (by kernel_rfl) (by kernel_rfl) (by kernel_rfl) (by kernel_rfl) (by kernel_rfl) (fun _ _ _ h => h) (Or.inl ⟨by rfl, ?_⟩) hHeld (fun hHeld => ?_)
  · (intro w1 hSw; have hSw2 := hSw.2 rfl; have hSw := hSw.1; (try dsimp only at hSw hSw2); go_simp)
  simp only [List.getElem_toArray, List.getElem_cons_succ, List.getElem_cons_zero, Act.put, List.setIfInBounds_toArray, List.set_cons_zero, List.set_cons_succ]
  refine wpAnyS_ready (i := 8) (by kernel_rfl) rfl (fun K hK => ?_)
  go_simp
  refine HCP.out.mono ?_
  rintro e w4 ⟨rfl, hf4, ho4⟩
  have HO4 : Hid (Onl O w w4) := HO3.out.then ho4
  obtain ⟨S2, HS2⟩ := hid_ex ({ S1 with dir := S1.old } : SfS)
  have HF4 : Hid (FsAt w4 O g m1 m2 (.slice none 0 0) bl vs S2) := by show FsAt w4 O g m1 m2 (.slice none 0 0) bl vs S2; rw [HS2.out]; exact hf4
  clear hf4 ho4 HCP HO3 HF3 d1 d2
  go_simp
  refine hK.out _ _ ⟨?_, fun hno => absurd hno (by decide)⟩ (fun hHeld => ?_)
  · trivial
  clear hK K
  refine wpAnyS_done (by kernel_rfl) ?_ _
  refine NoPanic.normal ?_
  have HW2 : Hid (SfWf S2) := by
    show SfWf S2
    have q := HW.out
    have hfd : ∀ p ∈ (s.pend.take k).foldl sfDo s.old, p.2 < s.fls.length ∧ p.1.length ≤ 32 := sfDo_fold_ok q.oi (fun a ha => q.pi a (List.mem_of_mem_take ha))
    have e1 : S1 = sfSettle s k := HS1.out
    rw [HS2.out, e1]
    exact ⟨q.r1, q.r2, q.l1, q.l2, hfd, hfd, by simp [sfSettle], rfl, fun j => by simp only [sfSettle, List.take_nil, List.foldl_nil]; exact q.ln k, q.sy⟩
  have hls := list_any HF4.out HW2.out
  have hdl2 := HW2.out.dl
  go_wp2_with fail
  refine hls.mono ?_
  rintro e w5 ⟨lv, rfl, hrow, hb5⟩
  obtain ⟨N, HN⟩ := hid_ex S2.dir.length
  rw [← HN.out] at hrow hdl2
  obtain ⟨la, lc, hlv⟩ := row_form hrow
  subst hlv
  have HF5 : Hid (FsAt w5 O g m1 m2 (.slice none 0 0) bl vs S2) := HF4.out.keep (fun k hk => hb5.block k (HF4.out.lt k hk)) hb5.size
  have HO5 : Hid (Onl O w w5) := HO4.out.then (onl_of_below hb5)
  have HR5 : Hid (w5.ownsRow w4.heap.size 9 1 (.slice la N lc) N (S2.dir.map fun p => sv p.1)) := hrow
  have HSO : Hid (S2.dir.Pairwise (fun p q => p.1 ≠ q.1)) := sorted_ne HF4.out.h1.apart
  clear hrow hb5 hls HF4
  go_wp2_with fail
  go_loopw [39] (fun i wr => ∃ (j : Nat) (vs' : Nat → Value) (fls' : List (List UInt8 × Nat)), i = .int .i64 (j : Int) ∧ j ≤ N ∧ Hid (FsAt wr O g m1 m2 (.slice none 0 0) bl vs' { S2 with fls := fls' }) ∧ Hid (sfCuts (S2.dir.drop j) (ks.drop j) fls' = sfCuts S2.dir ks S2.fls) ∧ Hid (sfFlOk fls') ∧ Hid (fls'.length = S2.fls.length) ∧ Hid (wr.ownsRow w4.heap.size 9 1 (.slice la N lc) N (S2.dir.map fun p => sv p.1)) ∧ Hid (Onl O w wr)) (fun i _ => N - (intOf i).toNat)
  case atStart => exact ⟨0, vs, S2.fls, rfl, by omega, HF5, rfl, HW2.out.sy, rfl, HR5, HO5⟩
  case round =>
    obtain ⟨j, vs', fls', rfl, hj, HR, HCU, HOK, HLN, HRW, HO⟩ := hrel
    by_cases hlt : j < N
    · have hlt' : (j : Int) < (N : Int) := by omega
      have hjd : j < S2.dir.length := by rw [← HN.out]; exact hlt
      obtain ⟨PE, HPE⟩ := hid_ex (S2.dir[j])
      obtain ⟨lb, hla, x0⟩ := row_str' HRW.out HN.out hlt
      subst hla
      rw [← HPE.out] at x0
      have hpm : PE ∈ S2.dir := by rw [HPE.out]; exact List.getElem_mem hjd
      obtain ⟨nm, I⟩ := PE
      have hI : I < S2.fls.length := (HW2.out.di _ hpm).1
      have hnm : nm.length ≤ 32 := (HW2.out.di _ hpm).2
      have hlook := HR.out.h1.look nm (by simp only [maxLen]; omega)
      have hlk : sfLook nm S2.dir = some I := mem_look HSO.out hpm
      rw [show ({ S2 with fls := fls' } : SfS).dir = S2.dir from rfl, hlk] at hlook
      simp only [sfPv] at hlook
      have d1 := HR.out.c1
      clear hlk hpm
      have hI' : I = S2.dir[j].2 := by rw [← HPE.out]
      have HPE : Hid (I = S2.dir[j].2) := hI'
      clear hI'
      by_cases hjk : j < ks.length
      · have hjk' : (j : Int) < (ks.length : Int) := by omega
        obtain ⟨a', cap', hkv, -, hq⟩ := HKR.out wr HO.out
        rcases hq with hq | ⟨kb, ko, hka, -, hcell⟩
        · rw [hq] at hjk; simp at hjk
        · simp at hkv
          obtain ⟨rfl, rfl⟩ := hkv
          subst hka
          have y0 := hcell j hjk
          obtain ⟨KP, hKP⟩ := hid_ex (ks[j])
          rw [← hKP.out] at y0
          have HKP : Hid (KP = (ks.drop j).headD 0) := by show KP = _; rw [headD_drop, dif_pos hjk, hKP.out]
          clear hcell hKP
          have HCT : Hid (Calls Try.prog 40 #[.pointer (some ⟨bl I, 0, none⟩), .int .i64 KP] wr fun e w' => e = .returned (.tuple #[]) ∧ ∃ vs1, FsAt w' O g m1 m2 (.slice none 0 0) bl vs1 { S2 with fls := fls'.set I (sfCut (fls'.getD I ([], 0)) KP) } ∧ Onl O wr w') := by
            obtain ⟨hf, hb⟩ := HR.out.file (s := { S2 with fls := fls' }) (i := I) (by show I < fls'.length; rw [HLN.out]; exact hI)
            have hfg : fls'[I]? = some (fls'.getD I ([], 0)) := by rw [List.getD_eq_getElem?_getD, List.getElem?_eq_getElem (by rw [HLN.out]; exact hI)]; rfl
            have hok := HOK.out I _ hfg
            refine (cut_any (f := fls'.getD I ([], 0)) hf hb hok.1 hok.2 KP).mono ?_
            rintro e w' ⟨he, v', hv1, hv2, hv3, hv4, hv5⟩
            have hIl : I < ({ S2 with fls := fls' } : SfS).fls.length := by show I < fls'.length; rw [HLN.out]; exact hI
            refine ⟨he, updF vs' I v', ?_, ⟨hv4.os, hv4.tape, hv4.output, hv4.size, fun k hk ho => hv4.block k hk (fun e => ho (e ▸ HR.out.fl.ob I hIl))⟩⟩
            exact HR.out.setI (fun _ q => q) (fun k q => by rw [hv5]; exact HR.out.lt k q) hIl (fun k ho hk _ => hv4.block k (HR.out.lt k ho) hk) hv2 hv3 (fun k hk => .inl (hv1 k hk))
          have HNX : Hid (sfCuts (S2.dir.drop (j + 1)) (ks.drop (j + 1)) (fls'.set I (sfCut (fls'.getD I ([], 0)) KP)) = sfCuts S2.dir ks S2.fls) := by
            show _ = _
            rw [← HCU.out, sfCuts_step hjd, ← HKP.out, ← HPE.out]
          go_wp2_with fail
          refine HCT.out.mono ?_
          rintro e w6 ⟨rfl, vs1, hf6, ho6⟩
          have HR6 := (show Hid (FsAt w6 O g m1 m2 (.slice none 0 0) bl vs1 { S2 with fls := fls'.set I (sfCut (fls'.getD I ([], 0)) KP) }) from hf6)
          have HO6 : Hid (Onl O w w6) := HO.out.then ho6
          have HRW6 : Hid (w6.ownsRow w4.heap.size 9 1 (.slice (some ⟨lb, 0, none⟩) N lc) N (S2.dir.map fun p => sv p.1)) := row_keepB HRW.out (fun k hk hl => ho6.block k hl (fun q => by have := HF.out.lt k q; have := HO4.out.size; omega))
          have HOK6 : Hid (sfFlOk (fls'.set I (sfCut (fls'.getD I ([], 0)) KP))) := HOK.out.cut I KP
          have HLN6 : Hid ((fls'.set I (sfCut (fls'.getD I ([], 0)) KP)).length = S2.fls.length) := (List.length_set ..).trans HLN.out
          clear hf6 ho6 HCT
          go_wp2_with fail
          go_roundw
          case rel => exact ⟨j + 1, vs1, _, by go_num, by omega, HR6, HNX, HOK6, HLN6, HRW6, HO6⟩
          case measure => simp [intOf]; omega
      · have hjk' : ¬ (j : Int) < (ks.length : Int) := by omega
        have HKP : Hid ((0 : Int) = (ks.drop j).headD 0) := by show (0 : Int) = _; rw [headD_drop, dif_neg hjk]
        have HCT : Hid (Calls Try.prog 40 #[.pointer (some ⟨bl I, 0, none⟩), .int .i64 0] wr fun e w' => e = .returned (.tuple #[]) ∧ ∃ vs1, FsAt w' O g m1 m2 (.slice none 0 0) bl vs1 { S2 with fls := fls'.set I (sfCut (fls'.getD I ([], 0)) 0) } ∧ Onl O wr w') := by
          obtain ⟨hf, hb⟩ := HR.out.file (s := { S2 with fls := fls' }) (i := I) (by show I < fls'.length; rw [HLN.out]; exact hI)
          have hfg : fls'[I]? = some (fls'.getD I ([], 0)) := by rw [List.getD_eq_getElem?_getD, List.getElem?_eq_getElem (by rw [HLN.out]; exact hI)]; rfl
          have hok := HOK.out I _ hfg
          refine (cut_any (f := fls'.getD I ([], 0)) hf hb hok.1 hok.2 0).mono ?_
          rintro e w' ⟨he, v', hv1, hv2, hv3, hv4, hv5⟩
          have hIl : I < ({ S2 with fls := fls' } : SfS).fls.length := by show I < fls'.length; rw [HLN.out]; exact hI
          refine ⟨he, updF vs' I v', ?_, ⟨hv4.os, hv4.tape, hv4.output, hv4.size, fun k hk ho => hv4.block k hk (fun e => ho (e ▸ HR.out.fl.ob I hIl))⟩⟩
          exact HR.out.setI (fun _ q => q) (fun k q => by rw [hv5]; exact HR.out.lt k q) hIl (fun k ho hk _ => hv4.block k (HR.out.lt k ho) hk) hv2 hv3 (fun k hk => .inl (hv1 k hk))
        have HNX : Hid (sfCuts (S2.dir.drop (j + 1)) (ks.drop (j + 1)) (fls'.set I (sfCut (fls'.getD I ([], 0)) 0)) = sfCuts S2.dir ks S2.fls) := by
          show _ = _
          rw [← HCU.out, sfCuts_step hjd, ← HKP.out, ← HPE.out]
        go_wp2_with fail
        refine HCT.out.mono ?_
        rintro e w6 ⟨rfl, vs1, hf6, ho6⟩
        have HR6 := (show Hid (FsAt w6 O g m1 m2 (.slice none 0 0) bl vs1 { S2 with fls := fls'.set I (sfCut (fls'.getD I ([], 0)) 0) }) from hf6)
        have HO6 : Hid (Onl O w w6) := HO.out.then ho6
        have HRW6 : Hid (w6.ownsRow w4.heap.size 9 1 (.slice (some ⟨lb, 0, none⟩) N lc) N (S2.dir.map fun p => sv p.1)) := row_keepB HRW.out (fun k hk hl => ho6.block k hl (fun q => by have := HF.out.lt k q; have := HO4.out.size; omega))
        have HOK6 : Hid (sfFlOk (fls'.set I (sfCut (fls'.getD I ([], 0)) 0))) := HOK.out.cut I 0
        have HLN6 : Hid ((fls'.set I (sfCut (fls'.getD I ([], 0)) 0)).length = S2.fls.length) := (List.length_set ..).trans HLN.out
        clear hf6 ho6 HCT
        go_wp2_with fail
        go_roundw
        case rel => exact ⟨j + 1, vs1, _, by go_num, by omega, HR6, HNX, HOK6, HLN6, HRW6, HO6⟩
        case measure => simp [intOf]; omega
    · have hlt' : ¬ (j : Int) < (N : Int) := by omega
      have hjn : j = S2.dir.length := by rw [← HN.out]; omega
      have HFE : Hid (fls' = sfCuts S2.dir ks S2.fls) := by
        have := HCU.out
        rw [List.drop_eq_nil_of_le (by omega)] at this
        exact this
      have c5 := HR.out.c5
      have z5 := HR.out.fz 5
      clear hjn
      go_wp2_with fail
      go_ret
      refine ⟨rfl, FsAt.to (pv := .slice none 0 0) (bl := bl) (vs := vs') ?_ HF.out.lt (HO.out.then (Onl.set (a := ⟨g, 5, none⟩) HR.out.og _))⟩
      have e1 : ({ S1 with dir := S1.old, fls := sfCuts S1.old ks s.fls, fault := 0 } : SfS) = { S2 with fls := fls', pend := S2.pend, left := S2.left, fault := 0 } := by
        rw [HFE.out, HS2.out, HS1.out]; rfl
      rw [e1]
      refine FsAt.setG (s := { S2 with fls := fls' }) HR.out (fun _ q => q) (fun k q => by have := HR.out.lt k q; simp [World.setCell]; exact this) (fun k _ hk _ => Below.heap_setCell _ _ _ _ hk) ?_ (HR.out.hp.keep fun k hk => by simp [Value.ownBlock] at hk) (fun k hk => by simp [Value.ownBlock] at hk)
      have := cells_set HR.out.hg 5 (.int .i64 0); simpa using this
end Go.Proofs.Ytijablmejjepaaa
