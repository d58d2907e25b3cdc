/- SN2, joined. -/
import Derived.Test.YtoibmjmajbkbcaaSG9
/- The reference's Put into a list without entries. -/
namespace Go.Proofs.Ytoibmjmajbkbcaa
open Go.RowKit

set_option maxRecDepth 100000 in
set_option maxHeartbeats 1000000 in
theorem ncopy_any (v : Value) (l : List UInt8) (hl : l.length ≤ 100000) (w : World) (hr : Reads w v l) :
    Calls Try.prog 6 #[v] w fun e w' => ∃ v', e = .returned v' ∧ Own w' w.heap.size v' l ∧ Below w.heap.size w w' := by
  go_enter Try.func6, Try.ntmps6
  go_wp2_with (at_builtin; refine wpList_app rfl _ _ rfl w.heap.size _ _ [] l l rfl rfl rfl (Own.nil _ _) hr (by simp; omega) (Nat.le_refl _) ?_)
  intro v2 w2 HO2 hb2
  clear hr
  go_wp2_with fail
  go_ret
  exact ⟨_, rfl, HO2, hb2.out⟩
set_option maxRecDepth 100000 in
set_option maxHeartbeats 1000000 in
theorem place_nil (Y : Nat) (f : Bool) (kv : Value) (k : Ks) (w : World) (hY : w.heap[Y]? = some (.cells #[.slice none 0 0, .bool f] 28)) (hR : Reads w kv k) :
    Calls Try.prog 25 #[.pointer (some ⟨Y, 0, none⟩), kv] w fun e w' => e = .returned (.int .i64 0) ∧ ∃ n, w' = w.drewN n := by
  obtain ⟨ak, ck, rfl, _⟩ := hR.form
  have c0 := (cell_row hY 0 (by simp)).1
  simp only [List.getElem_toArray, List.getElem_cons_zero] at c0
  clear hR hY
  go_enter Try.func25, Try.ntmps25
  go_wp2_with fail
  go_loopw [5] (fun i wr => wr = w ∧ i = .int .i64 0) (fun _ _ => 0)
  case atStart => exact ⟨rfl, rfl⟩
  case round =>
    obtain ⟨rfl, rfl⟩ := hrel
    go_wp2_with fail
    go_quiet (fail)
    go_wp2_with fail
    go_ret
    exact ⟨rfl, nq, rfl⟩
theorem beq0_t {n : Nat} (h : n = 0) : ((n : Int) == 0) = true := by subst h; rfl
theorem beq0_f {n : Nat} (h : ¬ n = 0) : ((n : Int) == 0) = false := by rw [beq_eq_false_iff_ne]; omega
theorem below_drewS {B : Nat} {a w : World} (h : Below B a w) (n : Nat) : Below B a (w.drewN n) := h.trans ⟨rfl, rfl, rfl, Nat.le_refl _, fun _ _ => rfl⟩
theorem wp_app_run {w w' : World} {o : Oper} {a : Act} {K : Act → World → Prop} {Q : Exit → Act → World → Prop} (s x : Operand) (t ty : TypeId) (ho : o.op = .call { callee := .builtin .append, args := #[s, x], argTypes := #[t, t] }) (hty : o.type = ty) (v vx v' : Value) (hs : a.eval s = v) (hx : a.eval x = vx)
    (hrun : (Builtin.append_ #[t, t] ty #[v, vx]).run Try.prog w = .ok v' w') (h : K (a.put o.dst v') w') : o.wp Try.prog a w K Q := by
  subst hty
  unfold Oper.wp
  simp [execOp, ho, resolve, invoke, builtin, hs, hx, hrun, Result.andThen]
  exact h
theorem news7 {w : World} {x0 x1 x2 x3 x4 x5 x6 : Value} {t : TypeId} : ∀ j u, [x0, x1, x2, x3, x4, x5, x6][j]? = some u → (w.alloc (.cells #[x0, x1, x2, x3, x4, x5, x6] t)).cell? ((⟨w.heap.size, 0, none⟩ : Addr).add j) = some u := by
  intro j u hj
  match j, hj with
  | 0, hj => simp at hj; subst hj; simp [Addr.add]
  | 1, hj => simp at hj; subst hj; simp [Addr.add]
  | 2, hj => simp at hj; subst hj; simp [Addr.add]
  | 3, hj => simp at hj; subst hj; simp [Addr.add]
  | 4, hj => simp at hj; subst hj; simp [Addr.add]
  | 5, hj => simp at hj; subst hj; simp [Addr.add]
  | 6, hj => simp at hj; subst hj; simp [Addr.add]
  | n + 7, hj => simp at hj
set_option maxRecDepth 100000 in
set_option maxHeartbeats 4000000 in
theorem refPut_new (Y : Nat) (kv : Value) (k : Ks) (a : Ag) (h : Int) (w : World) (hY : w.heap[Y]? = some (.cells #[.slice none 0 0, .bool false] 28)) (hR : Reads w kv k) :
    Calls Try.prog 8 #[.pointer (some ⟨Y, 0, none⟩), env kv a, .int .i64 h] w fun e w' => e = .returned (.int .i64 (mpF false h k.length a)) ∧ Below Y w w' := by
  have hYl := (Array.getElem?_eq_some_iff.1 hY).1
  have HR : Hid (Reads w kv k) := hR
  obtain ⟨ak, ck, rfl, hmk⟩ := hR.form
  unfold maxLen at hmk
  obtain ⟨w1, HW1⟩ := hid_ex (w.alloc (.cells #[.slice ak k.length ck, .int .u64 a.c, .bool a.o, .int .i64 (hi a.s), .int .u64 (lo a.s), .int .i64 a.mn, .int .i64 a.mx] 36))
  have HB1 : Hid (Below w.heap.size w w1) := by rw [HW1.out]; exact (Below.refl _ _).alloc (Nat.le_refl _) _
  have HX1 : Hid (w1.heap[w.heap.size]? = some (.cells #[.slice ak k.length ck, .int .u64 a.c, .bool a.o, .int .i64 (hi a.s), .int .u64 (lo a.s), .int .i64 a.mn, .int .i64 a.mx] 36)) := by rw [HW1.out]; exact World.alloc_heap_new _ _
  have HY1 : Hid (w1.heap[Y]? = some (.cells #[.slice none 0 0, .bool false] 28)) := (HB1.out.block _ hYl).trans hY
  have HBY : Hid (Below Y w w1) := HB1.out.mono (by omega)
  clear hR hY
  obtain ⟨q, Hq⟩ := hid_ex (mpF false h k.length a)
  rw [← Hq.out]
  unfold env
  have y0 := (cell_row HY1.out 0 (by simp)).1
  have y1 := (cell_row HY1.out 1 (by simp)).1
  have x0 := (cell_row HX1.out 0 (by simp)).1
  have x1 := (cell_row HX1.out 1 (by simp)).1
  have x2 := (cell_row HX1.out 2 (by simp)).1
  have x3 := (cell_row HX1.out 3 (by simp)).1
  have x4 := (cell_row HX1.out 4 (by simp)).1
  have x5 := (cell_row HX1.out 5 (by simp)).1
  have x6 := (cell_row HX1.out 6 (by simp)).1
  simp only [List.getElem_toArray, List.getElem_cons_succ, List.getElem_cons_zero] at y0 y1 x0 x1 x2 x3 x4 x5 x6
  go_enter Try.func8, Try.ntmps8
  by_cases g1 : h < 1
  · go_wp2_with fail
    rw [← HW1.out]
    go_ret
    refine ⟨?_, HBY.out⟩
    rw [Hq.out]; unfold mpF; rw [if_pos (.inl g1)]; rfl
  by_cases g2 : 8 < h
  · go_wp2_with fail
    rw [← HW1.out]
    go_ret
    refine ⟨?_, HBY.out⟩
    rw [Hq.out]; unfold mpF; rw [if_pos (.inr g2)]; rfl
  have HM : Hid (q = if k.length < 1 ∨ 256 < k.length then 40 else if a.c = 0 ∨ rightB a = false then 3 else 0) := by
    rw [Hq.out]; unfold Hid mpF; rw [if_neg (by omega), if_neg (by simp)]
  rw [HW1.out] at y0 y1
  by_cases k1 : k.length = 0
  · have i1 : ((k.length : Int) == 0) = true := beq0_t k1
    have hq : q = 40 := by rw [HM.out, if_pos (.inl (by omega))]
    subst hq
    clear k1
    go_wp2_with fail
    rw [← HW1.out]
    go_ret
    exact ⟨rfl, HBY.out⟩
  have i1 : ((k.length : Int) == 0) = false := beq0_f k1
  have k1' : 1 ≤ k.length := by omega
  clear k1
  by_cases k2 : (256 : Int) < (k.length : Int)
  · have hq : q = 40 := by rw [HM.out, if_pos (.inr (by omega))]
    subst hq
    go_wp2_with fail
    rw [← HW1.out]
    go_ret
    exact ⟨rfl, HBY.out⟩
  have HM2 : Hid (q = if a.c = 0 ∨ rightB a = false then 3 else 0) := by rw [HM.out]; unfold Hid; rw [if_neg (by omega)]
  clear HM
  by_cases a0 : a.c = 0
  · have i2 : (a.c == 0) = true := by rw [a0]; rfl
    have hq : q = 3 := by rw [HM2.out, if_pos (.inl a0)]
    subst hq
    clear a0
    go_wp2_with fail
    rw [← HW1.out]
    go_ret
    exact ⟨rfl, HBY.out⟩
  have i2 : (a.c == 0) = false := by rw [beq_eq_false_iff_ne]; exact a0
  have HM3 : Hid (q = if rightB a = false then 3 else 0) := by
    rw [HM2.out]; unfold Hid
    by_cases hr : rightB a = false
    · rw [if_pos (.inr hr), if_pos hr]
    · rw [if_neg (by rintro (h | h); exact a0 h; exact hr h), if_neg hr]
  clear HM2 a0
  have HRT : Hid (∀ w, Calls Try.prog 24 #[.agg #[.int .u64 a.c, .bool a.o, .int .i64 (hi a.s), .int .u64 (lo a.s), .int .i64 a.mn, .int .i64 a.mx]] w fun e w' => e = .returned (.bool (rightB a)) ∧ Below w.heap.size w w') := fun w => refRight_any a w
  go_wp2_with fail
  rw [← HW1.out]
  refine (HRT.out _).mono ?_
  rintro e w2 ⟨rfl, hb2⟩
  have hs1 := HB1.out.size
  have HB2 : Hid (Below w1.heap.size w1 w2) := hb2
  have HBY2 : Hid (Below Y w w2) := HBY.out.trans (hb2.mono (by have := (Array.getElem?_eq_some_iff.1 HX1.out).1; omega))
  have HX2 : Hid _ := (hb2.block _ (Array.getElem?_eq_some_iff.1 HX1.out).1).trans HX1.out
  have HY2 : Hid _ := (hb2.block _ (Array.getElem?_eq_some_iff.1 HY1.out).1).trans HY1.out
  have HR2 : Hid (Reads w2 (.slice ak k.length ck) k) := (HR.out.below HB1.out).below hb2
  clear hb2 y0 y1 x0 x1 x2 x3 x4 x5 x6 HW1 HRT
  cases hrb : rightB a with
  | false =>
    have hq : q = 3 := by rw [HM3.out, if_pos hrb]
    subst hq
    go_wp2_with fail
    go_ret
    exact ⟨rfl, HBY2.out⟩
  | true =>
    have hq : q = 0 := by rw [HM3.out, if_neg (by rw [hrb]; simp)]
    subst hq
    clear hrb HM3
    have x0 := (cell_row HX2.out 0 (by simp)).1
    have x1 := (cell_row HX2.out 1 (by simp)).1
    have x2 := (cell_row HX2.out 2 (by simp)).1
    have x3 := (cell_row HX2.out 3 (by simp)).1
    have x4 := (cell_row HX2.out 4 (by simp)).1
    have x5 := (cell_row HX2.out 5 (by simp)).1
    have x6 := (cell_row HX2.out 6 (by simp)).1
    simp only [List.getElem_toArray, List.getElem_cons_succ, List.getElem_cons_zero] at x0 x1 x2 x3 x4 x5 x6
    go_wp2_with fail
    refine (place_nil Y false _ k _ HY2.out HR2.out).mono ?_
    rintro e w3 ⟨rfl, n3, hw3⟩
    have HW3 : Hid (Below w2.heap.size w2 w3) := by rw [hw3]; exact below_drewS (Below.refl _ _) n3
    clear hw3
    have HX3 : Hid _ := (HW3.out.block _ (Array.getElem?_eq_some_iff.1 HX2.out).1).trans HX2.out
    have HY3 : Hid _ := (HW3.out.block _ (Array.getElem?_eq_some_iff.1 HY2.out).1).trans HY2.out
    have y0 := (cell_row HY3.out 0 (by simp)).1
    simp only [List.getElem_toArray, List.getElem_cons_zero] at y0
    clear x0 x1 x2 x3 x4 x5 x6
    go_wp2_with fail
    go_quiet (fail)
    obtain ⟨w4, HW4⟩ := hid_ex (w3.drewN nq)
    rw [← HW4.out]
    have HB4 : Hid (Below w2.heap.size w2 w4) := by rw [HW4.out]; exact below_drewS HW3.out nq
    have HX4 : Hid _ := (HB4.out.block _ (Array.getElem?_eq_some_iff.1 HX2.out).1).trans HX2.out
    have HY4 : Hid _ := (HB4.out.block _ (Array.getElem?_eq_some_iff.1 HY2.out).1).trans HY2.out
    clear y0 HW4 HX3 HY3 HW3
    have y0 := (cell_row HY4.out 0 (by simp)).1
    simp only [List.getElem_toArray, List.getElem_cons_zero] at y0
    obtain ⟨i0, hi0, hz0, hz1, hz2⟩ := info_parts infoEn
    go_wp2_with (at_builtin; refine wpList_append_own_none rfl _ _ 26 rfl w4.heap.size 36 i0 7 Try.underlying26 hi0 _ _ _ rfl (World.ownsRow_nil _ _ _ _) rfl ?_)
    refine wp_region_noPanic ?_
    refine wp_region_held_drew (S := (fun w' => Below w2.heap.size w2 w')) (by kernel_rfl) ?_ (fun hHeld => ?_)
    · exact HB4.out.drew
    refine wpAnyH_take (i := 0) (v := .slice none 0 0) rfl (by kernel_rfl) (by kernel_rfl) (by kernel_rfl) (fun _ _ _ h => h) (Or.inl ⟨by rfl, ?_⟩) (by assumption) ?_
    · (intro w1 hSw; (try dsimp only at hSw); go_simp)
    simp only [List.getElem_toArray, List.getElem_cons_zero, Act.put, List.setIfInBounds_toArray, List.set_cons_zero, List.set_cons_succ]
    refine wpAnyH_take (i := 1) (v := .pointer (some ⟨w.heap.size, 0, none⟩)) rfl (by kernel_rfl) (by kernel_rfl) (by kernel_rfl) (fun _ _ _ h => h) (Or.inl ⟨by rfl, ?_⟩) (by assumption) ?_
    · (intro w1 hSw; (try dsimp only at hSw); go_simp)
    simp only [List.getElem_toArray, List.getElem_cons_succ, List.getElem_cons_zero, Act.put, List.setIfInBounds_toArray, List.set_cons_zero, List.set_cons_succ]
    refine wpAnyH_take (i := 2) (v := .slice ak k.length ck) rfl (by kernel_rfl) (by kernel_rfl) (by kernel_rfl) (fun _ _ _ h => h) (Or.inl ⟨by rfl, ?_⟩) (by assumption) ?_
    · (intro w1 hSw; (try dsimp only at hSw); have hcc := (cell_row ((hSw.block _ (Array.getElem?_eq_some_iff.1 HX2.out).1).trans HX2.out) 0 (by simp)).1; simp only [List.getElem_toArray, List.getElem_cons_zero] at hcc; go_simp)
    simp only [List.getElem_toArray, List.getElem_cons_succ, List.getElem_cons_zero, Act.put, List.setIfInBounds_toArray, List.set_cons_zero, List.set_cons_succ]
    refine wpAnyH_take (i := 4) (v := .pointer (some ⟨w.heap.size, 1, none⟩)) rfl (by kernel_rfl) (by kernel_rfl) (by kernel_rfl) (fun _ _ _ h => h) (Or.inl ⟨by rfl, ?_⟩) (by assumption) ?_
    · (intro w1 hSw; (try dsimp only at hSw); go_simp)
    simp only [List.getElem_toArray, List.getElem_cons_succ, List.getElem_cons_zero, Act.put, List.setIfInBounds_toArray, List.set_cons_zero, List.set_cons_succ]
    refine wpAnyH_take (i := 5) (v := .agg #[.int .u64 a.c, .bool a.o, .int .i64 (hi a.s), .int .u64 (lo a.s), .int .i64 a.mn, .int .i64 a.mx]) rfl (by kernel_rfl) (by kernel_rfl) (by kernel_rfl) (fun _ _ _ h => h) (Or.inl ⟨by rfl, ?_⟩) (by assumption) ?_
    · (intro w1 hSw; (try dsimp only at hSw); have hxx := (hSw.block _ (Array.getElem?_eq_some_iff.1 HX2.out).1).trans HX2.out; have h1 := (cell_row hxx 1 (by simp)).1; have h2 := (cell_row hxx 2 (by simp)).1; have h3 := (cell_row hxx 3 (by simp)).1; have h4 := (cell_row hxx 4 (by simp)).1; have h5 := (cell_row hxx 5 (by simp)).1; have h6 := (cell_row hxx 6 (by simp)).1; simp only [List.getElem_toArray, List.getElem_cons_succ, List.getElem_cons_zero] at h1 h2 h3 h4 h5 h6; go_simp)
    simp only [List.getElem_toArray, List.getElem_cons_succ, List.getElem_cons_zero, Act.put, List.setIfInBounds_toArray, List.set_cons_zero, List.set_cons_succ]
    refine wpAnyH_ready (rs := [3]) (by kernel_rfl) (by simp) ?_
    refine AllReadyH.cons (o := _) rfl (fun K hK => ?_) AllReadyH.nil
    go_simp
    refine (ncopy_any _ k (by omega) _ (HR2.out.below HB4.out.drew)).mono ?_
    rintro e w5 ⟨v5, rfl, ho5, hb5⟩
    have HB5 : Hid (Below w2.heap.size w2 w5) := HB4.out.drew.trans (hb5.mono HB4.out.size)
    have h45 : w4.heap.size ≤ w5.heap.size := hb5.size
    obtain ⟨a5, c5, hv5, -⟩ := ho5.form
    subst hv5
    clear ho5 hb5
    refine hK.out _ _ ?_ (fun hHeld => ?_)
    · exact HB5.out
    clear hK K
    refine wpAnyH_take (i := 6) (v := .agg #[.slice a5 k.length c5, .int .u64 a.c, .bool a.o, .int .i64 (hi a.s), .int .u64 (lo a.s), .int .i64 a.mn, .int .i64 a.mx]) rfl (by kernel_rfl) (by kernel_rfl) (by kernel_rfl) (fun _ _ _ h => h) (Or.inl ⟨by rfl, ?_⟩) (by assumption) ?_
    · (intro w1 hSw; (try dsimp only at hSw); go_simp)
    simp only [List.getElem_toArray, List.getElem_cons_succ, List.getElem_cons_zero, Act.put, List.setIfInBounds_toArray, List.set_cons_zero, List.set_cons_succ]
    refine wpAnyH_ready (rs := [7]) (by kernel_rfl) (by simp) ?_
    refine AllReadyH.cons (o := _) rfl (fun K hK => ?_) AllReadyH.nil
    go_simp
    have HALL : Hid (∃ u w6, (Builtin.append_ #[26, 26] 26 #[.slice none 0 0, .slice (some ⟨w5.heap.size, 0, none⟩) 1 1]).run Try.prog (w5.alloc (.cells #[.slice a5 k.length c5, .int .u64 a.c, .bool a.o, .int .i64 (hi a.s), .int .u64 (lo a.s), .int .i64 a.mn, .int .i64 a.mx] 36)) = .ok u w6 ∧ (∃ ys, w6.ownsRow w4.heap.size 36 7 u 1 ys) ∧ Below w4.heap.size w5 w6) := by
      obtain ⟨u, w6, hrun, hown', hgrow, _⟩ := run_append_own (P := Try.prog) (w5.alloc (.cells #[.slice a5 k.length c5, .int .u64 a.c, .bool a.o, .int .i64 (hi a.s), .int .u64 (lo a.s), .int .i64 a.mn, .int .i64 a.mx] 36)) w4.heap.size 26 26 36 i0 _ 7 72 Try.underlying26 hi0 hz0 hz1 hz2 rfl (by decide) (.slice none 0 0) 0 [] (World.ownsRow_nil _ _ _ _) ⟨w5.heap.size, 0, none⟩ 1 1 [.slice a5 k.length c5, .int .u64 a.c, .bool a.o, .int .i64 (hi a.s), .int .u64 (lo a.s), .int .i64 a.mn, .int .i64 a.mx] rfl news7 (by simp [Value.oneCell']) (by unfold maxLen; omega) (by omega) (by simp; omega)
      exact ⟨u, w6, hrun, ⟨_, hown'⟩, ((Below.refl w4.heap.size w5).alloc h45 _).grown hgrow (by simp; omega) (fun c hc => by simp [Value.ownBlock] at hc)⟩
    refine hK.out _ _ ?_ (fun hHeld => ?_)
    · exact HB5.out.alloc HB5.out.size _
    clear hK K
    refine wpAnyH_ready (rs := [8]) (by kernel_rfl) (by simp) ?_
    refine AllReadyH.cons (o := _) rfl (fun K hK => ?_) AllReadyH.nil
    obtain ⟨v6, w6, hrun, ho6, hb6⟩ := HALL.out
    refine wp_app_run _ _ _ _ (by rfl) (by rfl) _ _ _ (by rfl) (by rfl) hrun ?_
    have h24 := HB4.out.size
    have HB6 : Hid (Below w2.heap.size w2 w6) := HB5.out.trans (hb6.mono h24)
    have HO6 : Hid _ := ho6
    have HY6 : Hid _ := (HB6.out.block _ (Array.getElem?_eq_some_iff.1 HY2.out).1).trans HY2.out
    clear hrun ho6 hb6 HALL
    simp only [List.getElem_toArray, List.getElem_cons_succ, List.getElem_cons_zero, Act.put, List.setIfInBounds_toArray, List.set_cons_zero, List.set_cons_succ]
    refine hK.out _ _ ?_ (fun hHeld => ?_)
    · exact HB6.out
    clear hK K
    refine wpAnyH_ready (rs := [9]) (by kernel_rfl) (by simp) ?_
    refine AllReadyH.cons (o := _) rfl (fun K hK => ?_) AllReadyH.nil
    go_simp
    refine hK.out _ _ ?_ (fun hHeld => ?_)
    · exact HB6.out
    clear hK K
    clear hHeld y0
    refine wpAnyH_done (by kernel_rfl) ?_ _
    refine NoPanic.normal ?_
    obtain ⟨ys, hys⟩ := HO6.out
    obtain ⟨a6, c6, rfl⟩ : ∃ a c, v6 = .slice a 1 c := by
      rcases hys.2 with ⟨_, h2⟩ | ⟨g, cap, cur, hv, _⟩
      · omega
      · exact ⟨_, cap, hv⟩
    have z0 := cell_row HY6.out 0 (by simp)
    obtain ⟨y0, f0⟩ := z0
    simp only [List.getElem_toArray, List.getElem_cons_zero] at y0
    have HBE : Hid (Below Y w (w6.setCell ⟨Y, 0, none⟩ (.slice a6 1 c6))) := (HBY2.out.trans (HB6.out.mono (by have := (Array.getElem?_eq_some_iff.1 HY2.out).1; omega))).setCell (by simp) _
    go_wp2_with (at_builtin; refine wpList_append_own_none rfl _ _ 26 rfl w4.heap.size 36 i0 7 Try.underlying26 hi0 _ _ _ rfl hys rfl ?_)
    go_ret
    exact ⟨rfl, HBE.out⟩
end Go.Proofs.Ytoibmjmajbkbcaa
