/- The contracts of layer 9's 'As' and 'Same'. -/
import Derived.Test.YtfgggfddehgigaaBK8
namespace Go.Proofs.Ytfgggfddehgigaa
open Go.RowKit

theorem infoR : (Try.prog.info? 43).map (fun i => (i.zero, i.size, i.bytes)) = some (some (.agg #[.slice none 0 0, .slice none 0 0]), 2, 48) := by kernel_rfl
/-- An append whose run is known, at one operation. -/
theorem wp_app_run {w w' : World} {o : Oper} {a : Act} {K : Act → World → Prop} {Q : Exit → Act → World → Prop} (s x : Operand) (t ty : TypeId) (ho : o.op = .call { callee := .builtin .append, args := #[s, x], argTypes := #[t, t] }) (hty : o.type = ty) (v vx v' : Value) (hs : a.eval s = v) (hx : a.eval x = vx)
    (hrun : (Builtin.append_ #[t, t] ty #[v, vx]).run Try.prog w = .ok v' w') (h : K (a.put o.dst v') w') : o.wp Try.prog a w K Q := by
  subst hty
  unfold Oper.wp
  simp [execOp, ho, resolve, invoke, builtin, hs, hx, hrun, Result.andThen]
  exact h
def v2 (p : Value × Value) : List Value := [p.1, p.2]
theorem flatv : ∀ (xs : List (Value × Value)) (j i : Nat) (hj : j < xs.length), i < 2 → (xs.flatMap v2)[2 * j + i]? = (v2 xs[j])[i]?
  | [], j, i, hj, _ => by simp at hj
  | x :: xs, 0, i, _, hi => by
    rw [List.flatMap_cons, List.getElem?_append_left (by simp [v2]; omega)]; simp
  | x :: xs, j + 1, i, hj, hi => by
    rw [List.flatMap_cons, List.getElem?_append_right (by simp [v2]; omega), show (v2 x).length = 2 from rfl, show 2 * (j + 1) + i - 2 = 2 * j + i by omega]
    exact flatv xs j i (by simpa using hj) hi
/-- What As has laid so far. -/
def AsI (w : World) (l : List Pr) (k : Nat) (o : Value) (wr : World) : Prop :=
  ∃ vs : List (Value × Value), vs.length = k ∧ wr.ownsRow w.heap.size 43 2 o k (vs.flatMap v2) ∧ (∀ j (h1 : j < vs.length) (h2 : j < l.length), Reads w vs[j].1 l[j].1 ∧ Reads w vs[j].2 l[j].2) ∧ Below w.heap.size w wr
theorem AsI.form {w : World} {l : List Pr} {k : Nat} {o : Value} {wr : World} (h : AsI w l k o wr) : ∃ a cap, o = .slice a k cap := by
  obtain ⟨vs, _, h2, _⟩ := h
  rcases h2.2 with ⟨h1, h2⟩ | ⟨g, cap, cur, hv, _⟩
  · exact ⟨none, 0, by rw [h1, h2]⟩
  · exact ⟨_, cap, hv⟩
theorem AsI.reads {w : World} {l : List Pr} {o : Value} {wr : World} (h : AsI w l l.length o wr) : PReads wr o l := by
  obtain ⟨vs, hl, hr0, hv, hb⟩ := h
  have hlt := World.ownsRow.lt hr0
  rcases hr0.2 with ⟨h1, h2⟩ | ⟨g, cap, cur, hvv, hg, hw, hc, hm, _⟩
  · have : l = [] := List.length_eq_zero_iff.1 h2
    subst this
    exact ⟨none, 0, by rw [h1]; rfl, by simp, by simp, .inl rfl⟩
  · have hr := hr0
    rw [hvv] at hr
    refine ⟨some ⟨g, 0, none⟩, cap, hvv, hc, hm, .inr ⟨g, 0, rfl, (hlt g (by rw [hvv]; rfl)).2, fun j hj => ?_⟩⟩
    have c0 := World.ownsRow.cellAt hr (2 * j + 0) (by omega)
    have c1 := World.ownsRow.cellAt hr (2 * j + 1) (by omega)
    rw [flatv vs j 0 (by omega) (by decide)] at c0
    rw [flatv vs j 1 (by omega) (by decide)] at c1
    have hx := hv j (by omega) hj
    refine ⟨(vs[j]'(by omega)).1, (vs[j]'(by omega)).2, ?_, ?_, hx.1.below hb, hx.2.below hb⟩
    · rw [show 0 + j * 2 = 2 * j + 0 by omega, c0]; rfl
    · rw [show 0 + j * 2 + 1 = 2 * j + 1 by omega, c1]; rfl
set_option maxRecDepth 100000 in
set_option maxHeartbeats 2000000 in
theorem as_any (v : Value) (l : List Pr) (hl : l.length ≤ 100000) (w : World) (hP : PReads w v l) :
    Calls Try.prog 10 #[v] w fun e w' => ∃ u, e = .returned u ∧ PReads w' u l ∧ Below w.heap.size w w' := by
  obtain ⟨a, cap, rfl, hcap, hm, h3⟩ := hP
  unfold maxLen at hm
  have H3 : Hid _ := h3
  clear h3
  go_enter Try.func10, Try.ntmps10
  go_wp2_with fail
  go_loopw [3, 4] (fun o i wr => ∃ k : Nat, k ≤ l.length ∧ i = .int .i64 (k : Int) ∧ Hid (AsI w l k o wr)) (fun _ i _ => l.length - (intOf i).toNat)
  case atStart => exact ⟨0, by omega, rfl, [], rfl, World.ownsRow_nil _ _ _ _, fun j h => by simp at h, Below.refl _ _⟩
  case round =>
    obtain ⟨k, hk, rfl, HI⟩ := hrel
    obtain ⟨ao, co, rfl⟩ := HI.out.form
    by_cases hlt : k < l.length
    · obtain ⟨bA, oA, rfl, hbA, hA⟩ := H3.out.resolve_left (fun h => by rw [h] at hlt; simp at hlt)
      obtain ⟨kx, vx, q0, q1, r0, r1⟩ := hA k hlt
      obtain ⟨vs, hvl, hown, hvs, hb⟩ := id HI.out
      have HW : Hid (Below w.heap.size w wr) := hb
      have hszr := hb.size
      obtain ⟨a1, c1', rfl, _⟩ := r0.form
      obtain ⟨a2, c2', rfl, _⟩ := r1.form
      have HALL : Hid (∃ u w6, (Builtin.append_ #[30, 30] 30 #[.slice ao k co, .slice (some ⟨wr.drew.heap.size, 0, none⟩) 1 1]).run Try.prog (wr.drew.alloc (.cells #[.slice a1 l[k].1.length c1', .slice a2 l[k].2.length c2'] 43)) = .ok u w6 ∧ AsI w l (k + 1) u w6) := by
        obtain ⟨i0, hi0, hz0, hz1, hz2⟩ := info_parts infoR
        have hown2 : wr.drew.ownsRow w.heap.size 43 2 (.slice ao k co) k (vs.flatMap v2) := hown
        obtain ⟨u, w6, hrun, hown', hgrow, _⟩ := run_append_own (P := Try.prog) (wr.drew.alloc (.cells #[.slice a1 l[k].1.length c1', .slice a2 l[k].2.length c2'] 43)) w.heap.size 30 30 43 i0 _ 2 48 Try.underlying30 hi0 hz0 hz1 hz2 rfl (by decide) (.slice ao k co) k (vs.flatMap v2) (hown2.alloc _) ⟨wr.drew.heap.size, 0, none⟩ 1 1 [.slice a1 l[k].1.length c1', .slice a2 l[k].2.length c2'] rfl news2 (by simp [Value.oneCell']) (by unfold maxLen; omega) (by omega) (by simp; exact Nat.le_succ_of_le hszr)
        refine ⟨u, w6, hrun, vs ++ [(.slice a1 l[k].1.length c1', .slice a2 l[k].2.length c2')], by simp [hvl], ?_, ?_, ?_⟩
        · rw [List.flatMap_append]; simpa [v2] using hown'
        · intro j h1 h2
          by_cases hj : j < vs.length
          · rw [List.getElem_append_left hj]; exact hvs j hj h2
          · have : j = k := by simp at h1; omega
            subst this
            rw [List.getElem_append_right (by omega)]
            simp only [hvl, Nat.sub_self, List.getElem_cons_zero]
            exact ⟨r0, r1⟩
        · exact ((HW.out.drew.alloc hszr _).grown hgrow (by simp; exact Nat.le_succ_of_le hszr) (fun c hc => (World.ownsRow.lt hown2 c hc).1))
      obtain ⟨n1, HN1⟩ := hid_ex l[k].1.length
      obtain ⟨n2, HN2⟩ := hid_ex l[k].2.length
      rw [← HN1.out] at q0 HALL
      rw [← HN2.out] at q1 HALL
      clear hA hown hvs hb HI r0 r1
      go_wp2_with fail
      refine wp_region_noPanic ?_
      refine wp_region_held_drew (S := (fun w' => Below w.heap.size w w')) (by kernel_rfl) ?_ (fun hHeld => ?_)
      · exact HW.out.drew
      refine wpAnyH_take (i := 0) (v := .slice ao k co) rfl (by kernel_rfl) (by kernel_rfl) (by kernel_rfl) (fun _ _ _ h => h) (Or.inl ⟨by rfl, ?_⟩) (by assumption) ?_
      · (intro w1 hSw; (try dsimp only at hSw); go_simp)
      simp only [List.getElem_toArray, List.getElem_cons_zero, Act.put, List.setIfInBounds_toArray, List.set_cons_zero, List.set_cons_succ]
      refine wpAnyH_take (i := 1) (v := .slice (some ⟨bA, oA, none⟩) l.length cap) rfl (by kernel_rfl) (by kernel_rfl) (by kernel_rfl) (fun _ _ _ h => h) (Or.inl ⟨by rfl, ?_⟩) (by assumption) ?_
      · (intro w1 hSw; (try dsimp only at hSw); go_simp)
      simp only [List.getElem_toArray, List.getElem_cons_succ, List.getElem_cons_zero, Act.put, List.setIfInBounds_toArray, List.set_cons_zero, List.set_cons_succ]
      refine wpAnyH_take (i := 2) (v := .int .i64 (k : Int)) rfl (by kernel_rfl) (by kernel_rfl) (by kernel_rfl) (fun _ _ _ h => h) (Or.inl ⟨by rfl, ?_⟩) (by assumption) ?_
      · (intro w1 hSw; (try dsimp only at hSw); go_simp)
      simp only [List.getElem_toArray, List.getElem_cons_succ, List.getElem_cons_zero, Act.put, List.setIfInBounds_toArray, List.set_cons_zero, List.set_cons_succ]
      refine wpAnyH_take (i := 3) (v := .pointer (some ⟨bA, oA + k * 2, none⟩)) rfl (by kernel_rfl) (by kernel_rfl) (by kernel_rfl) (fun _ _ _ h => h) (Or.inl ⟨by rfl, ?_⟩) (by assumption) ?_
      · (intro w1 hSw; (try dsimp only at hSw); go_simp)
      simp only [List.getElem_toArray, List.getElem_cons_succ, List.getElem_cons_zero, Act.put, List.setIfInBounds_toArray, List.set_cons_zero, List.set_cons_succ]
      refine wpAnyH_take (i := 4) (v := .pointer (some ⟨bA, oA + k * 2, none⟩)) rfl (by kernel_rfl) (by kernel_rfl) (by kernel_rfl) (fun _ _ _ h => h) (Or.inl ⟨by rfl, ?_⟩) (by assumption) ?_
      · (intro w1 hSw; (try dsimp only at hSw); go_simp)
      simp only [List.getElem_toArray, List.getElem_cons_succ, List.getElem_cons_zero, Act.put, List.setIfInBounds_toArray, List.set_cons_zero, List.set_cons_succ]
      refine wpAnyH_take (i := 5) (v := .slice a1 n1 c1') rfl (by kernel_rfl) (by kernel_rfl) (by kernel_rfl) (fun _ _ _ h => h) (Or.inl ⟨by rfl, ?_⟩) (by assumption) ?_
      · (intro w1 hSw; (try dsimp only at hSw); have hcc := (hSw.cell (p := ⟨bA, oA + k * 2, none⟩) hbA).trans q0; go_simp)
      simp only [List.getElem_toArray, List.getElem_cons_succ, List.getElem_cons_zero, Act.put, List.setIfInBounds_toArray, List.set_cons_zero, List.set_cons_succ]
      refine wpAnyH_take (i := 6) (v := .slice (some ⟨bA, oA, none⟩) l.length cap) rfl (by kernel_rfl) (by kernel_rfl) (by kernel_rfl) (fun _ _ _ h => h) (Or.inl ⟨by rfl, ?_⟩) (by assumption) ?_
      · (intro w1 hSw; (try dsimp only at hSw); go_simp)
      simp only [List.getElem_toArray, List.getElem_cons_succ, List.getElem_cons_zero, Act.put, List.setIfInBounds_toArray, List.set_cons_zero, List.set_cons_succ]
      refine wpAnyH_take (i := 7) (v := .int .i64 (k : Int)) rfl (by kernel_rfl) (by kernel_rfl) (by kernel_rfl) (fun _ _ _ h => h) (Or.inl ⟨by rfl, ?_⟩) (by assumption) ?_
      · (intro w1 hSw; (try dsimp only at hSw); go_simp)
      simp only [List.getElem_toArray, List.getElem_cons_succ, List.getElem_cons_zero, Act.put, List.setIfInBounds_toArray, List.set_cons_zero, List.set_cons_succ]
      refine wpAnyH_take (i := 8) (v := .pointer (some ⟨bA, oA + k * 2, none⟩)) rfl (by kernel_rfl) (by kernel_rfl) (by kernel_rfl) (fun _ _ _ h => h) (Or.inl ⟨by rfl, ?_⟩) (by assumption) ?_
      · (intro w1 hSw; (try dsimp only at hSw); go_simp)
      simp only [List.getElem_toArray, List.getElem_cons_succ, List.getElem_cons_zero, Act.put, List.setIfInBounds_toArray, List.set_cons_zero, List.set_cons_succ]
      refine wpAnyH_take (i := 9) (v := .pointer (some ⟨bA, oA + k * 2 + 1, none⟩)) rfl (by kernel_rfl) (by kernel_rfl) (by kernel_rfl) (fun _ _ _ h => h) (Or.inl ⟨by rfl, ?_⟩) (by assumption) ?_
      · (intro w1 hSw; (try dsimp only at hSw); go_simp)
      simp only [List.getElem_toArray, List.getElem_cons_succ, List.getElem_cons_zero, Act.put, List.setIfInBounds_toArray, List.set_cons_zero, List.set_cons_succ]
      refine wpAnyH_take (i := 10) (v := .slice a2 n2 c2') rfl (by kernel_rfl) (by kernel_rfl) (by kernel_rfl) (fun _ _ _ h => h) (Or.inl ⟨by rfl, ?_⟩) (by assumption) ?_
      · (intro w1 hSw; (try dsimp only at hSw); have hcc := (hSw.cell (p := ⟨bA, oA + k * 2 + 1, none⟩) hbA).trans q1; go_simp)
      simp only [List.getElem_toArray, List.getElem_cons_succ, List.getElem_cons_zero, Act.put, List.setIfInBounds_toArray, List.set_cons_zero, List.set_cons_succ]
      refine wpAnyH_take (i := 11) (v := .agg #[.slice a1 n1 c1', .slice a2 n2 c2']) rfl (by kernel_rfl) (by kernel_rfl) (by kernel_rfl) (fun _ _ _ h => h) (Or.inl ⟨by rfl, ?_⟩) (by assumption) ?_
      · (intro w1 hSw; (try dsimp only at hSw); go_simp)
      simp only [List.getElem_toArray, List.getElem_cons_succ, List.getElem_cons_zero, Act.put, List.setIfInBounds_toArray, List.set_cons_zero, List.set_cons_succ]
      refine wpAnyH_ready (rs := [12]) (by kernel_rfl) (by simp) ?_
      refine AllReadyH.cons (o := _) rfl (fun K hK => ?_) AllReadyH.nil
      go_simp
      refine hK.out _ _ ?_ (fun hHeld => ?_)
      · exact HW.out.drew.alloc hszr _
      clear hK K
      refine wpAnyH_ready (rs := [13]) (by kernel_rfl) (by simp) ?_
      refine AllReadyH.cons (o := _) rfl (fun K hK => ?_) AllReadyH.nil
      obtain ⟨u, w6, hrun, hI6⟩ := HALL.out
      refine wp_app_run _ _ _ _ (by rfl) (by rfl) _ _ _ (by rfl) (by rfl) hrun ?_
      have HI6 : Hid (AsI w l (k + 1) u w6) := hI6
      clear hrun hI6
      simp only [List.getElem_toArray, List.getElem_cons_succ, List.getElem_cons_zero, Act.put, List.setIfInBounds_toArray, List.set_cons_zero, List.set_cons_succ]
      refine hK.out _ _ ?_ (fun hHeld => ?_)
      · exact HI6.out.choose_spec.2.2.2
      clear hK K
      refine wpAnyH_ready (rs := [14]) (by kernel_rfl) (by simp) ?_
      refine AllReadyH.cons (o := _) rfl (fun K hK => ?_) AllReadyH.nil
      go_simp
      refine hK.out _ _ ?_ (fun hHeld => ?_)
      · exact HI6.out.choose_spec.2.2.2
      clear hK K
      clear hHeld
      refine wpAnyH_done (by kernel_rfl) ?_ _
      refine NoPanic.normal ?_
      go_wp2_with fail
      go_roundw
      case rel => exact ⟨k + 1, by omega, by go_num, HI6⟩
      case measure => simp [intOf]; omega
    · go_wp2_with fail
      go_ret
      have hkl : k = l.length := by omega
      subst hkl
      exact ⟨_, rfl, HI.out.reads, HI.out.choose_spec.2.2.2⟩
set_option maxRecDepth 100000 in
set_option maxHeartbeats 2000000 in
theorem same_true (va vb : Value) (L : List Pr) (w : World) (hA : PReads w va L) (hB : PReads w vb L) :
    Calls Try.prog 18 #[va, vb] w fun e w' => e = .returned (.bool true) ∧ Below w.heap.size w w' := by
  obtain ⟨a, ca, rfl, hca, hma, hA3⟩ := hA
  obtain ⟨b, cb, rfl, hcb, hmb, hB3⟩ := hB
  unfold maxLen at hma hmb
  have HA3 : Hid _ := hA3
  have HB3 : Hid _ := hB3
  clear hA3 hB3
  go_enter Try.func18, Try.ntmps18
  go_wp2_with fail
  go_loopw [5] (fun i wr => ∃ k : Nat, k ≤ L.length ∧ i = .int .i64 (k : Int) ∧ Hid (Below w.heap.size w wr)) (fun i _ => L.length - (intOf i).toNat)
  case atStart => exact ⟨0, by omega, rfl, Below.refl _ _⟩
  case round =>
    obtain ⟨k, hk, rfl, HW⟩ := hrel
    by_cases hlt : k < L.length
    · obtain ⟨bA, oA, rfl, hbA, hA⟩ := HA3.out.resolve_left (fun h => by rw [h] at hlt; simp at hlt)
      obtain ⟨bB, oB, rfl, hbB, hB⟩ := HB3.out.resolve_left (fun h => by rw [h] at hlt; simp at hlt)
      obtain ⟨kv, vv, q0, q1, r0, r1⟩ := hA k hlt
      obtain ⟨kv', vv', q0', q1', r0', r1'⟩ := hB k hlt
      obtain ⟨X, HX⟩ := hid_ex L[k]
      rw [← HX.out] at r0 r1 r0' r1'
      have c0 := (HW.out.cell (p := ⟨bA, oA + k * 2, none⟩) hbA).trans q0
      have c1 := (HW.out.cell (p := ⟨bA, oA + k * 2 + 1, none⟩) hbA).trans q1
      have d0 := (HW.out.cell (p := ⟨bB, oB + k * 2, none⟩) hbB).trans q0'
      have d1 := (HW.out.cell (p := ⟨bB, oB + k * 2 + 1, none⟩) hbB).trans q1'
      obtain ⟨a1, c1', rfl, _⟩ := r0.form
      obtain ⟨a2, c2', rfl, _⟩ := r1.form
      obtain ⟨a3, c3', rfl, _⟩ := r0'.form
      obtain ⟨a4, c4', rfl, _⟩ := r1'.form
      have hq1 : ∀ n, (convert 23 9 (.slice a1 X.1.length c1')).run Try.prog (wr.drewN n) = .ok (.string ⟨X.1.toArray⟩) (wr.drewN n) := fun n => reads_text (r0.below (below_drewN HW.out n))
      have hq2 : ∀ n, (convert 23 9 (.slice a2 X.2.length c2')).run Try.prog (wr.drewN n) = .ok (.string ⟨X.2.toArray⟩) (wr.drewN n) := fun n => reads_text (r1.below (below_drewN HW.out n))
      have hq3 : ∀ n, (convert 23 9 (.slice a3 X.1.length c3')).run Try.prog (wr.drewN n) = .ok (.string ⟨X.1.toArray⟩) (wr.drewN n) := fun n => reads_text (r0'.below (below_drewN HW.out n))
      have hq4 : ∀ n, (convert 23 9 (.slice a4 X.2.length c4')).run Try.prog (wr.drewN n) = .ok (.string ⟨X.2.toArray⟩) (wr.drewN n) := fun n => reads_text (r1'.below (below_drewN HW.out n))
      clear hA hB q0 q1 q0' q1' r0 r1 r0' r1' HX
      go_wp2_with fail
      go_quiet (fail)
      have HW2 : Hid (Below w.heap.size w (wr.drewN nq)) := below_drewN HW.out nq
      clear hq1 hq2 hq3 hq4 c0 c1 d0 d1
      go_wp2_with fail
      go_roundw
      case rel => exact ⟨k + 1, by omega, by go_num, HW2⟩
      case measure => simp [intOf]; omega
    · go_wp2_with fail
      go_ret
      exact ⟨rfl, HW.out⟩
end Go.Proofs.Ytfgggfddehgigaa
