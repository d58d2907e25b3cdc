/- A file system: Append, Read. -/
import Derived.Test.YtijablmejjepaaaSF8
namespace Go.Proofs.Ytijablmejjepaaa
open Go.RowKit Go.Maps

theorem SfWf.plan {s : SfS} (q : SfWf s) : SfWf (sfPlan s).2 := by
  unfold sfPlan
  split
  · exact q
  · split
    · exact ⟨q.r1, q.r2, by show _ ≤ s.left - 1; omega, by show s.left - 1 < _; have := q.l2; omega, q.di, q.oi, q.pi, q.ap, q.ln, q.sy⟩
    · exact ⟨q.r1, q.r2, q.l1, q.l2, q.di, q.oi, q.pi, q.ap, q.ln, q.sy⟩
theorem Reads.keepB {w w' : World} {v : Value} {l : List UInt8} (h : Reads w v l) (hk : ∀ k, v.ownBlock = some k → k < w.heap.size → w'.heap[k]? = w.heap[k]?) (hs : w.heap.size ≤ w'.heap.size) : Reads w' v l := by
  rcases h with h | ⟨b, off, cap, rfl, h2, h3, h4, h5, h6⟩
  · exact .inl h
  · exact .inr ⟨b, off, cap, rfl, h2, h3, h4, by omega, fun j hj => (World.cell?_of_block (hk b rfl h5)).trans (h6 j hj)⟩
theorem wpList_app_runG {w w' : World} {ops : Array Oper} {rest : List Oper} {o : Oper} {a : Act} {Q : Exit → Act → World → Prop} (hgd : o.guard = none) (s x : Operand) (t ty : TypeId) (ho : o.op = .call { callee := .builtin .append, args := #[s, x], argTypes := #[t, t] }) (hty : o.type = ty) (v vx v' : Value) (hs : a.eval s = v) (hx : a.eval x = vx)
    (hrun : (Builtin.append_ #[t, t] ty #[v, vx]).run Try.prog w = .ok v' w') (h : wpList Try.prog ops Q rest (a.put o.dst v') w') : wpList Try.prog ops Q (o :: rest) a w :=
  wpList_plain hgd fun _ hK => wp_app_runG s x t ty ho hty v vx v' hs hx hrun (hK _ _ h)
set_option maxRecDepth 100000 in
set_option maxHeartbeats 8000000 in
theorem append_any {w : World} {O : Nat → Prop} {g m1 m2 : Nat} {pv : Value} {bl : Nat → Nat} {vs : Nat → Value} {s : SfS} (h : FsAt w O g m1 m2 pv bl vs s) (hw : SfWf s) (n : List UInt8) (hn : n.length ≤ maxLen) (bv : Value) (b : List UInt8) (hR : ∀ w', Onl O w w' → Reads w' bv b) :
    Calls Try.prog 12 #[.pointer (some ⟨g, 0, none⟩), .string ⟨n.toArray⟩, bv] w fun e w' => e = .returned (.int .i64 (sfAppend s n b).1) ∧ FsTo w O g m1 m2 (sfAppend s n b).2 w' := by
  have HF : Hid (FsAt w O g m1 m2 pv bl vs s) := h
  have HW : Hid (SfWf s) := hw
  have HEnd : Hid (FsTo w O g m1 m2 s w) := h.to h.lt (Onl.refl _ _)
  have HRD : Hid (∀ w', Onl O w w' → Reads w' bv b) := hR
  obtain ⟨ba, bc', rfl, hbl⟩ := (hR w (Onl.refl _ _)).form
  have hbl' : (b.length : Int) ≤ 9223372036854775807 := by simp only [maxLen] at hbl; omega
  have hfd := find_any h hw n hn
  have hpl := planned_any h hw
  have hdi := hw.di
  clear h hw hR
  unfold sfAppend
  cases hL : sfLook n s.dir with
  | none =>
    rw [hL] at hfd
    simp only [sfPv, sfFe] at hfd
    go_enter Try.func12, Try.ntmps12
    go_wp2_with (go_at_call 36; refine hfd.mono ?_; rintro e w' ⟨rfl, hw'⟩; subst w')
    go_ret
    exact ⟨rfl, HEnd.out⟩
  | some i =>
    rw [hL] at hfd
    simp only [sfPv, sfFe] at hfd
    have hi : i < s.fls.length := (hdi _ (look_mem hL)).1
    simp only []
    obtain ⟨hf, hb⟩ := HF.out.file hi
    obtain ⟨va, vc, hv, -⟩ := hb.form
    rw [hv] at hf
    have x0 := cell_of hf 0 _ rfl
    have hL32 := (HW.out.fl32 i).1
    obtain ⟨L, HLL⟩ := hid_ex ((s.fl i).1.length)
    rw [← HLL.out] at x0 hL32 ⊢
    clear hf hb hv hdi hL
    by_cases h1 : 1048576 < L + b.length
    · rw [if_pos h1]
      have h1' : (1048576 : Int) - (L : Int) < (b.length : Int) := by omega
      go_enter Try.func12, Try.ntmps12
      go_wp2_with (go_at_call 36; refine hfd.mono ?_; rintro e w' ⟨rfl, hw'⟩; subst w')
      go_ret
      exact ⟨rfl, HEnd.out⟩
    · rw [if_neg h1]
      have h1' : ¬ (1048576 : Int) - (L : Int) < (b.length : Int) := by omega
      have c0 := HF.out.c0
      have r1 := HW.out.r1
      have r2 := HW.out.r2
      have hus : Calls Try.prog 30 #[.pointer (some ⟨g, 0, none⟩)] w.drew fun e w' => e = .returned (.int .i64 (sfUsed s : Int)) ∧ Below w.heap.size w w' := (used_any (w := w.drew) (HF.out.keep (fun _ _ => rfl) (Nat.le_refl _)) HW.out).mono (fun e w' h => ⟨h.1, (Below.refl w.heap.size w).drew.trans h.2⟩)
      have hu0 : (sfUsed s : Int) ≤ 268435456 := by
        have := sumL_le (F := fun i => (s.fl i).1.length) (B := 1048576) (fun _ => false) (l := s.dir) fun p _ => (HW.out.fl32 p.2).1
        rw [sumL_end (fun _ => rfl)] at this
        have e : sfUsed s = (s.dir.map fun p => (s.fl p.2).1.length).sum := rfl
        have := HW.out.dl
        omega
      obtain ⟨U, HU⟩ := hid_ex (sfUsed s)
      rw [← HU.out] at hus hu0 ⊢
      obtain ⟨R, HRm⟩ := hid_ex s.room
      rw [← HRm.out] at c0 r1 r2 ⊢
      by_cases h2 : R < ((U + b.length : Nat) : Int)
      · rw [if_pos h2]
        have h2' : R - (U : Int) < (b.length : Int) := by omega
        go_enter Try.func12, Try.ntmps12
        go_wp2_with (go_at_call 36; refine hfd.mono ?_; rintro e w' ⟨rfl, hw'⟩; subst w')
        refine wp_region_noPanic ?_
        refine wp_region_held_drew (S := (fun w' => w'.cell? ⟨g, 0, none⟩ = some (.int .i64 R))) (by kernel_rfl) ?_ (fun hHeld => ?_)
        · exact c0
        refine wpAnyH_take (i := 0) (v := .slice ba b.length bc') rfl (by kernel_rfl) (by kernel_rfl) (by kernel_rfl) (fun _ _ _ h => h) (Or.inl ⟨by rfl, ?_⟩) (by assumption) ?_
        · (intro w1 hSw; (try dsimp only at hSw); go_simp)
        simp only [List.getElem_toArray, List.getElem_cons_zero, Act.put, List.setIfInBounds_toArray, List.set_cons_zero, List.set_cons_succ]
        refine wpAnyH_take (i := 1) (v := .int .i64 (b.length : Int)) rfl (by kernel_rfl) (by kernel_rfl) (by kernel_rfl) (fun _ _ _ h => h) (Or.inl ⟨by rfl, ?_⟩) (by assumption) ?_
        · (intro w1 hSw; (try dsimp only at hSw); go_simp)
        simp only [List.getElem_toArray, List.getElem_cons_succ, List.getElem_cons_zero, Act.put, List.setIfInBounds_toArray, List.set_cons_zero, List.set_cons_succ]
        refine wpAnyH_take (i := 2) (v := .pointer (some ⟨g, 0, none⟩)) rfl (by kernel_rfl) (by kernel_rfl) (by kernel_rfl) (fun _ _ _ h => h) (Or.inl ⟨by rfl, ?_⟩) (by assumption) ?_
        · (intro w1 hSw; (try dsimp only at hSw); go_simp)
        simp only [List.getElem_toArray, List.getElem_cons_succ, List.getElem_cons_zero, Act.put, List.setIfInBounds_toArray, List.set_cons_zero, List.set_cons_succ]
        refine wpAnyH_take (i := 3) (v := .pointer (some ⟨g, 0, none⟩)) rfl (by kernel_rfl) (by kernel_rfl) (by kernel_rfl) (fun _ _ _ h => h) (Or.inl ⟨by rfl, ?_⟩) (by assumption) ?_
        · (intro w1 hSw; (try dsimp only at hSw); go_simp)
        simp only [List.getElem_toArray, List.getElem_cons_succ, List.getElem_cons_zero, Act.put, List.setIfInBounds_toArray, List.set_cons_zero, List.set_cons_succ]
        refine wpAnyH_take (i := 4) (v := .pointer (some ⟨g, 0, none⟩)) rfl (by kernel_rfl) (by kernel_rfl) (by kernel_rfl) (fun _ _ _ h => h) (Or.inl ⟨by rfl, ?_⟩) (by assumption) ?_
        · (intro w1 hSw; (try dsimp only at hSw); go_simp)
        simp only [List.getElem_toArray, List.getElem_cons_succ, List.getElem_cons_zero, Act.put, List.setIfInBounds_toArray, List.set_cons_zero, List.set_cons_succ]
        refine wpAnyH_take (i := 5) (v := .int .i64 R) rfl (by kernel_rfl) (by kernel_rfl) (by kernel_rfl) (fun _ _ _ h => h) (Or.inl ⟨by rfl, ?_⟩) (by assumption) ?_
        · (intro w1 hSw; (try dsimp only at hSw); go_simp)
        simp only [List.getElem_toArray, List.getElem_cons_succ, List.getElem_cons_zero, Act.put, List.setIfInBounds_toArray, List.set_cons_zero, List.set_cons_succ]
        refine wpAnyH_take (i := 6) (v := .pointer (some ⟨g, 0, none⟩)) rfl (by kernel_rfl) (by kernel_rfl) (by kernel_rfl) (fun _ _ _ h => h) (Or.inl ⟨by rfl, ?_⟩) (by assumption) ?_
        · (intro w1 hSw; (try dsimp only at hSw); go_simp)
        simp only [List.getElem_toArray, List.getElem_cons_succ, List.getElem_cons_zero, Act.put, List.setIfInBounds_toArray, List.set_cons_zero, List.set_cons_succ]
        refine wpAnyH_ready (rs := [7]) (by kernel_rfl) (by simp) ?_
        refine AllReadyH.cons (o := _) rfl (fun K hK => ?_) AllReadyH.nil
        go_simp
        refine hus.mono ?_
        rintro e w2 ⟨rfl, hb2⟩
        have HB2 : Hid (Below w.heap.size w w2) := hb2
        clear hb2 hus
        go_simp
        refine hK.out _ _ ?_ (fun hHeld => ?_)
        · exact (HB2.out.cell (p := ⟨g, 0, none⟩) (HF.out.lt g HF.out.og)).trans c0
        clear hK K
        refine wpAnyH_take (i := 8) (v := .int .i64 (R - (U : Int))) rfl (by kernel_rfl) (by kernel_rfl) (by kernel_rfl) (fun _ _ _ h => h) (Or.inl ⟨by rfl, ?_⟩) (by assumption) ?_
        · (intro w1 hSw; (try dsimp only at hSw); go_simp; rw [IntWalk.i64_left, IntWalk.wrap64_in _ (by omega)])
        simp only [List.getElem_toArray, List.getElem_cons_succ, List.getElem_cons_zero, Act.put, List.setIfInBounds_toArray, List.set_cons_zero, List.set_cons_succ]
        refine wpAnyH_take (i := 9) (v := .bool true) rfl (by kernel_rfl) (by kernel_rfl) (by kernel_rfl) (fun _ _ _ h => h) (Or.inl ⟨by rfl, ?_⟩) (by assumption) ?_
        · (intro w1 hSw; (try dsimp only at hSw); go_simp)
        simp only [List.getElem_toArray, List.getElem_cons_succ, List.getElem_cons_zero, Act.put, List.setIfInBounds_toArray, List.set_cons_zero, List.set_cons_succ]
        refine wpAnyH_ready (rs := [10]) (by kernel_rfl) (by simp) ?_
        refine AllReadyH.cons (o := _) rfl (fun K hK => ?_) AllReadyH.nil
        go_simp
        refine hK.out _ _ ?_ (fun hHeld => ?_)
        · exact (HB2.out.cell (p := ⟨g, 0, none⟩) (HF.out.lt g HF.out.og)).trans c0
        clear hK K
        refine wpAnyH_done (by kernel_rfl) ?_ _
        refine NoPanic.normal ?_
        go_wp2_with fail
        go_ret
        exact ⟨rfl, FsAt.to (HF.out.keep (fun k hk => HB2.out.block k (HF.out.lt k hk)) HB2.out.size) HF.out.lt (onl_of_below HB2.out)⟩
      · rw [if_neg h2]
        have h2' : ¬ R - (U : Int) < (b.length : Int) := by omega
        have hbs : L + b.length ≤ 1048576 := by omega
        have hpl2 : ∀ w2, Below w.heap.size w w2 → Calls Try.prog 37 #[.pointer (some ⟨g, 0, none⟩)] w2 fun e w' => e = .returned (.int .i64 (sfPlan s).1) ∧ FsAt w' O g m1 m2 pv bl vs (sfPlan s).2 ∧ Onl O w w' ∧ w.heap.size ≤ w'.heap.size ∧ Below w.heap.size w w2 := fun w2 hb2 =>
          (planned_any (HF.out.keep (fun k hk => hb2.block k (HF.out.lt k hk)) hb2.size) HW.out).mono (fun e w' h => ⟨h.1, h.2.1, (onl_of_below hb2).then h.2.2.1, by have := h.2.2.2; have := hb2.size; omega, hb2⟩)
        have HPL := (show Hid (∀ w2, Below w.heap.size w w2 → Calls Try.prog 37 #[.pointer (some ⟨g, 0, none⟩)] w2 fun e w' => e = .returned (.int .i64 (sfPlan s).1) ∧ FsAt w' O g m1 m2 pv bl vs (sfPlan s).2 ∧ Onl O w w' ∧ w.heap.size ≤ w'.heap.size ∧ Below w.heap.size w w2) from hpl2)
        clear hpl hpl2
        by_cases hE : (sfPlan s).1 = 0
        · rw [if_pos hE]
          rw [hE] at HPL
          obtain ⟨S, HS⟩ := hid_ex (sfPlan s).2
          rw [← HS.out] at HPL ⊢
          have HFL : Hid (S.fls = s.fls) := by show S.fls = _; rw [HS.out]; exact sfPlan_fls s
          have HFI : Hid (S.fl i = s.fl i) := by show S.fl i = _; unfold SfS.fl; rw [HFL.out]
          rw [← HFI.out]
          have hi' : i < S.fls.length := by rw [HFL.out]; exact hi
          clear hE hi
          go_enter Try.func12, Try.ntmps12
          go_wp2_with (go_at_call 36; refine hfd.mono ?_; rintro e w' ⟨rfl, hw'⟩; subst w')
          refine wp_region_noPanic ?_
          refine wp_region_held_drew (S := (fun w' => w'.cell? ⟨g, 0, none⟩ = some (.int .i64 R))) (by kernel_rfl) ?_ (fun hHeld => ?_)
          · exact c0
          refine wpAnyH_take (i := 0) (v := .slice ba b.length bc') rfl (by kernel_rfl) (by kernel_rfl) (by kernel_rfl) (fun _ _ _ h => h) (Or.inl ⟨by rfl, ?_⟩) (by assumption) ?_
          · (intro w1 hSw; (try dsimp only at hSw); go_simp)
          simp only [List.getElem_toArray, List.getElem_cons_zero, Act.put, List.setIfInBounds_toArray, List.set_cons_zero, List.set_cons_succ]
          refine wpAnyH_take (i := 1) (v := .int .i64 (b.length : Int)) rfl (by kernel_rfl) (by kernel_rfl) (by kernel_rfl) (fun _ _ _ h => h) (Or.inl ⟨by rfl, ?_⟩) (by assumption) ?_
          · (intro w1 hSw; (try dsimp only at hSw); go_simp)
          simp only [List.getElem_toArray, List.getElem_cons_succ, List.getElem_cons_zero, Act.put, List.setIfInBounds_toArray, List.set_cons_zero, List.set_cons_succ]
          refine wpAnyH_take (i := 2) (v := .pointer (some ⟨g, 0, none⟩)) rfl (by kernel_rfl) (by kernel_rfl) (by kernel_rfl) (fun _ _ _ h => h) (Or.inl ⟨by rfl, ?_⟩) (by assumption) ?_
          · (intro w1 hSw; (try dsimp only at hSw); go_simp)
          simp only [List.getElem_toArray, List.getElem_cons_succ, List.getElem_cons_zero, Act.put, List.setIfInBounds_toArray, List.set_cons_zero, List.set_cons_succ]
          refine wpAnyH_take (i := 3) (v := .pointer (some ⟨g, 0, none⟩)) rfl (by kernel_rfl) (by kernel_rfl) (by kernel_rfl) (fun _ _ _ h => h) (Or.inl ⟨by rfl, ?_⟩) (by assumption) ?_
          · (intro w1 hSw; (try dsimp only at hSw); go_simp)
          simp only [List.getElem_toArray, List.getElem_cons_succ, List.getElem_cons_zero, Act.put, List.setIfInBounds_toArray, List.set_cons_zero, List.set_cons_succ]
          refine wpAnyH_take (i := 4) (v := .pointer (some ⟨g, 0, none⟩)) rfl (by kernel_rfl) (by kernel_rfl) (by kernel_rfl) (fun _ _ _ h => h) (Or.inl ⟨by rfl, ?_⟩) (by assumption) ?_
          · (intro w1 hSw; (try dsimp only at hSw); go_simp)
          simp only [List.getElem_toArray, List.getElem_cons_succ, List.getElem_cons_zero, Act.put, List.setIfInBounds_toArray, List.set_cons_zero, List.set_cons_succ]
          refine wpAnyH_take (i := 5) (v := .int .i64 R) rfl (by kernel_rfl) (by kernel_rfl) (by kernel_rfl) (fun _ _ _ h => h) (Or.inl ⟨by rfl, ?_⟩) (by assumption) ?_
          · (intro w1 hSw; (try dsimp only at hSw); go_simp)
          simp only [List.getElem_toArray, List.getElem_cons_succ, List.getElem_cons_zero, Act.put, List.setIfInBounds_toArray, List.set_cons_zero, List.set_cons_succ]
          refine wpAnyH_take (i := 6) (v := .pointer (some ⟨g, 0, none⟩)) rfl (by kernel_rfl) (by kernel_rfl) (by kernel_rfl) (fun _ _ _ h => h) (Or.inl ⟨by rfl, ?_⟩) (by assumption) ?_
          · (intro w1 hSw; (try dsimp only at hSw); go_simp)
          simp only [List.getElem_toArray, List.getElem_cons_succ, List.getElem_cons_zero, Act.put, List.setIfInBounds_toArray, List.set_cons_zero, List.set_cons_succ]
          refine wpAnyH_ready (rs := [7]) (by kernel_rfl) (by simp) ?_
          refine AllReadyH.cons (o := _) rfl (fun K hK => ?_) AllReadyH.nil
          go_simp
          refine hus.mono ?_
          rintro e w2 ⟨rfl, hb2⟩
          have HB2 : Hid (Below w.heap.size w w2) := hb2
          clear hb2 hus
          go_simp
          refine hK.out _ _ ?_ (fun hHeld => ?_)
          · exact (HB2.out.cell (p := ⟨g, 0, none⟩) (HF.out.lt g HF.out.og)).trans c0
          clear hK K
          refine wpAnyH_take (i := 8) (v := .int .i64 (R - (U : Int))) rfl (by kernel_rfl) (by kernel_rfl) (by kernel_rfl) (fun _ _ _ h => h) (Or.inl ⟨by rfl, ?_⟩) (by assumption) ?_
          · (intro w1 hSw; (try dsimp only at hSw); go_simp; rw [IntWalk.i64_left, IntWalk.wrap64_in _ (by omega)])
          simp only [List.getElem_toArray, List.getElem_cons_succ, List.getElem_cons_zero, Act.put, List.setIfInBounds_toArray, List.set_cons_zero, List.set_cons_succ]
          refine wpAnyH_take (i := 9) (v := .bool false) rfl (by kernel_rfl) (by kernel_rfl) (by kernel_rfl) (fun _ _ _ h => h) (Or.inl ⟨by rfl, ?_⟩) (by assumption) ?_
          · (intro w1 hSw; (try dsimp only at hSw); go_simp)
          simp only [List.getElem_toArray, List.getElem_cons_succ, List.getElem_cons_zero, Act.put, List.setIfInBounds_toArray, List.set_cons_zero, List.set_cons_succ]
          refine wpAnyH_ready (rs := [10]) (by kernel_rfl) (by simp) ?_
          refine AllReadyH.cons (o := _) rfl (fun K hK => ?_) AllReadyH.nil
          go_simp
          refine hK.out _ _ ?_ (fun hHeld => ?_)
          · exact (HB2.out.cell (p := ⟨g, 0, none⟩) (HF.out.lt g HF.out.og)).trans c0
          clear hK K
          refine wpAnyH_done (by kernel_rfl) ?_ _
          refine NoPanic.normal ?_
          clear c0
          go_wp2_with fail
          refine (HPL.out w2 HB2.out).mono ?_
          rintro e w3 ⟨rfl, hf3, ho3, -, -⟩
          have HF3 : Hid (FsAt w3 O g m1 m2 pv bl vs S) := hf3
          have HO3 : Hid (Onl O w w3) := ho3
          clear hf3 ho3
          obtain ⟨hf, hb⟩ := HF3.out.file hi'
          obtain ⟨va', vc', hv, -⟩ := hb.form
          have HFF := (show Hid (w3.heap[bl i]? = some (.cells #[vs i, .int .i64 ((S.fl i).2 : Int)] 69)) from hf)
          have HBB := (show Hid (BOwn w3 (vs i) (S.fl i).1) from hb)
          obtain ⟨v', w4, hrun, hb4, hgr, hloc⟩ := run_bapp 31 (vs i) _ (S.fl i).1 b hb (HRD.out w3 HO3.out) (by have h1 := HLL.out; have h2 := HFI.out; rw [h2, ← h1]; omega)
          obtain ⟨va4, vc4, hv4, -⟩ := hb4.form
          obtain ⟨M, HM⟩ := hid_ex (((S.fl i).1 ++ b).length)
          rw [← HM.out] at hv4
          subst hv4
          have HV4 : Hid (BOwn w4 (.slice va4 M vc4) ((S.fl i).1 ++ b)) := hb4
          have HGR : Hid (w3.grownBy w4 (vs i).ownBlock) := hgr
          have HLC : Hid (∀ k, (Value.slice va4 M vc4).ownBlock = some k → (vs i).ownBlock = some k ∨ (w3.heap.size ≤ k ∧ k < w4.heap.size)) := hloc
          have HG4 : Hid (w4.heap[bl i]? = some (.cells #[vs i, .int .i64 ((S.fl i).2 : Int)] 69)) := by
            show w4.heap[bl i]? = _
            rw [hgr.block _ (Array.getElem?_eq_some_iff.1 hf).1 (fun e => ?_)]
            · exact hf
            · obtain ⟨cur, hc⟩ := hb.block e.symm
              exact ty_ne hc hf (by decide) rfl
          clear hb4 hgr hloc hf hb
          have x3 := cell_of HFF.out 0 _ rfl
          have x4 := cell_of HG4.out 0 _ rfl
          have z4 : w4.frozen? ⟨bl i, 0, none⟩ = false := by simp [World.frozen?, HG4.out]
          have HVS : Hid (vs i = .slice va' (S.fl i).1.length vc') := hv
          rw [hv] at x3 x4 hrun
          clear hv x0
          generalize hq : (S.fl i).1.length = L3 at *
          have HQ3 : Hid ((S.fl i).1.length = L3) := hq
          clear hq
          go_wp2_with (at_builtin; refine wpList_app_runG rfl _ _ 31 31 rfl rfl _ _ _ rfl rfl hrun ?_)
          go_ret
          have hsz4 : w3.heap.size ≤ w4.heap.size := HGR.out.size
          refine ⟨rfl, ⟨pv, bl, updF vs i (.slice va4 M vc4), ?_⟩, ?_⟩
          · refine HF3.out.setI (fun _ q => .inl q) (fun k q => ?_) hi' (fun k ho hk hp => ?_) (v := .slice va4 M vc4) ?_ (HV4.out.keep fun k hk => ?_) (fun k hk => ?_)
            · have : k < w4.heap.size := by
                rcases q with q | q
                · have := HF3.out.lt k q; omega
                · simpa [World.setCell] using q.2
              simpa [World.setCell] using this
            · rw [Below.heap_setCell _ _ _ _ hk, HGR.out.block k (HF3.out.lt k ho) hp]
            · have := cells_set HG4.out 0 (.slice va4 M vc4); simpa using this
            · obtain ⟨cur, hc⟩ := HV4.out.block hk
              exact Below.heap_setCell _ _ _ _ (ty_ne hc HG4.out (by decide))
            · rcases HLC.out k hk with q | q
              · exact .inl q
              · exact .inr ⟨q.1, .inr ⟨by have := HO3.out.size; omega, by simpa [World.setCell] using q.2⟩⟩
          · refine HO3.out.then ⟨HGR.out.os, HGR.out.tape, HGR.out.output, by simpa [World.setCell] using hsz4, fun k hk ho => ?_⟩
            have hne : k ≠ bl i := fun e => ho (e ▸ HF3.out.fl.ob i hi')
            rw [Below.heap_setCell _ _ _ _ hne, HGR.out.block k hk (fun e => ho (HF3.out.fl.ov i hi' k e.symm))]
        · rw [if_neg hE]
          have hE' : ((sfPlan s).1 == 0) = false := by simpa using hE
          go_enter Try.func12, Try.ntmps12
          go_wp2_with (go_at_call 36; refine hfd.mono ?_; rintro e w' ⟨rfl, hw'⟩; subst w')
          refine wp_region_noPanic ?_
          refine wp_region_held_drew (S := (fun w' => w'.cell? ⟨g, 0, none⟩ = some (.int .i64 R))) (by kernel_rfl) ?_ (fun hHeld => ?_)
          · exact c0
          refine wpAnyH_take (i := 0) (v := .slice ba b.length bc') rfl (by kernel_rfl) (by kernel_rfl) (by kernel_rfl) (fun _ _ _ h => h) (Or.inl ⟨by rfl, ?_⟩) (by assumption) ?_
          · (intro w1 hSw; (try dsimp only at hSw); go_simp)
          simp only [List.getElem_toArray, List.getElem_cons_zero, Act.put, List.setIfInBounds_toArray, List.set_cons_zero, List.set_cons_succ]
          refine wpAnyH_take (i := 1) (v := .int .i64 (b.length : Int)) rfl (by kernel_rfl) (by kernel_rfl) (by kernel_rfl) (fun _ _ _ h => h) (Or.inl ⟨by rfl, ?_⟩) (by assumption) ?_
          · (intro w1 hSw; (try dsimp only at hSw); go_simp)
          simp only [List.getElem_toArray, List.getElem_cons_succ, List.getElem_cons_zero, Act.put, List.setIfInBounds_toArray, List.set_cons_zero, List.set_cons_succ]
          refine wpAnyH_take (i := 2) (v := .pointer (some ⟨g, 0, none⟩)) rfl (by kernel_rfl) (by kernel_rfl) (by kernel_rfl) (fun _ _ _ h => h) (Or.inl ⟨by rfl, ?_⟩) (by assumption) ?_
          · (intro w1 hSw; (try dsimp only at hSw); go_simp)
          simp only [List.getElem_toArray, List.getElem_cons_succ, List.getElem_cons_zero, Act.put, List.setIfInBounds_toArray, List.set_cons_zero, List.set_cons_succ]
          refine wpAnyH_take (i := 3) (v := .pointer (some ⟨g, 0, none⟩)) rfl (by kernel_rfl) (by kernel_rfl) (by kernel_rfl) (fun _ _ _ h => h) (Or.inl ⟨by rfl, ?_⟩) (by assumption) ?_
          · (intro w1 hSw; (try dsimp only at hSw); go_simp)
          simp only [List.getElem_toArray, List.getElem_cons_succ, List.getElem_cons_zero, Act.put, List.setIfInBounds_toArray, List.set_cons_zero, List.set_cons_succ]
          refine wpAnyH_take (i := 4) (v := .pointer (some ⟨g, 0, none⟩)) rfl (by kernel_rfl) (by kernel_rfl) (by kernel_rfl) (fun _ _ _ h => h) (Or.inl ⟨by rfl, ?_⟩) (by assumption) ?_
          · (intro w1 hSw; (try dsimp only at hSw); go_simp)
          simp only [List.getElem_toArray, List.getElem_cons_succ, List.getElem_cons_zero, Act.put, List.setIfInBounds_toArray, List.set_cons_zero, List.set_cons_succ]
          refine wpAnyH_take (i := 5) (v := .int .i64 R) rfl (by kernel_rfl) (by kernel_rfl) (by kernel_rfl) (fun _ _ _ h => h) (Or.inl ⟨by rfl, ?_⟩) (by assumption) ?_
          · (intro w1 hSw; (try dsimp only at hSw); go_simp)
          simp only [List.getElem_toArray, List.getElem_cons_succ, List.getElem_cons_zero, Act.put, List.setIfInBounds_toArray, List.set_cons_zero, List.set_cons_succ]
          refine wpAnyH_take (i := 6) (v := .pointer (some ⟨g, 0, none⟩)) rfl (by kernel_rfl) (by kernel_rfl) (by kernel_rfl) (fun _ _ _ h => h) (Or.inl ⟨by rfl, ?_⟩) (by assumption) ?_
          · (intro w1 hSw; (try dsimp only at hSw); go_simp)
          simp only [List.getElem_toArray, List.getElem_cons_succ, List.getElem_cons_zero, Act.put, List.setIfInBounds_toArray, List.set_cons_zero, List.set_cons_succ]
          refine wpAnyH_ready (rs := [7]) (by kernel_rfl) (by simp) ?_
          refine AllReadyH.cons (o := _) rfl (fun K hK => ?_) AllReadyH.nil
          go_simp
          refine hus.mono ?_
          rintro e w2 ⟨rfl, hb2⟩
          have HB2 : Hid (Below w.heap.size w w2) := hb2
          clear hb2 hus
          go_simp
          refine hK.out _ _ ?_ (fun hHeld => ?_)
          · exact (HB2.out.cell (p := ⟨g, 0, none⟩) (HF.out.lt g HF.out.og)).trans c0
          clear hK K
          refine wpAnyH_take (i := 8) (v := .int .i64 (R - (U : Int))) rfl (by kernel_rfl) (by kernel_rfl) (by kernel_rfl) (fun _ _ _ h => h) (Or.inl ⟨by rfl, ?_⟩) (by assumption) ?_
          · (intro w1 hSw; (try dsimp only at hSw); go_simp; rw [IntWalk.i64_left, IntWalk.wrap64_in _ (by omega)])
          simp only [List.getElem_toArray, List.getElem_cons_succ, List.getElem_cons_zero, Act.put, List.setIfInBounds_toArray, List.set_cons_zero, List.set_cons_succ]
          refine wpAnyH_take (i := 9) (v := .bool false) rfl (by kernel_rfl) (by kernel_rfl) (by kernel_rfl) (fun _ _ _ h => h) (Or.inl ⟨by rfl, ?_⟩) (by assumption) ?_
          · (intro w1 hSw; (try dsimp only at hSw); go_simp)
          simp only [List.getElem_toArray, List.getElem_cons_succ, List.getElem_cons_zero, Act.put, List.setIfInBounds_toArray, List.set_cons_zero, List.set_cons_succ]
          refine wpAnyH_ready (rs := [10]) (by kernel_rfl) (by simp) ?_
          refine AllReadyH.cons (o := _) rfl (fun K hK => ?_) AllReadyH.nil
          go_simp
          refine hK.out _ _ ?_ (fun hHeld => ?_)
          · exact (HB2.out.cell (p := ⟨g, 0, none⟩) (HF.out.lt g HF.out.og)).trans c0
          clear hK K
          refine wpAnyH_done (by kernel_rfl) ?_ _
          refine NoPanic.normal ?_
          clear c0
          go_wp2_with fail
          refine (HPL.out w2 HB2.out).mono ?_
          rintro e w3 ⟨rfl, hf3, ho3, -, -⟩
          go_wp2_with fail
          go_ret
          exact ⟨rfl, hf3.to HF.out.lt ho3⟩
end Go.Proofs.Ytijablmejjepaaa
