/- The contract of Seek. -/
import Derived.Test.YtbeemkcdpmbhmaaS12
import Derived.Test.YtbeemkcdpmbhmaaFY
import Derived.Maps.AppendAt
namespace Go.Proofs.Ytbeemkcdpmbhmaa
open Go.RowKit Go.Shelf
attribute [local go_sem] Oper.semAt_some

theorem from_in (n : Nat) (p : Option Addr) (a : Option Addr) (len cap : Nat) (w : World) :
    CallsIn Fence.wide n Try.prog 28 #[.pointer p, .slice a len cap] w fun e w' => e = .returned (.func (.func 38) #[] #[.pointer (some ⟨w.heap.size, 0, none⟩), .pointer (some ⟨w.heap.size + 1, 0, none⟩)]) ∧ w' = (w.alloc (.cells #[.pointer p] 23)).alloc (.cells #[.slice a len cap] 29) := by
  refine callsIn_of_wp Try.func28 rfl trivial ?_ rfl
  simp only [Try.ntmps28, List.size_toArray, List.length_cons, List.length_nil, Nat.reduceAdd, Nat.reduceSub, Array.replicate_succ, Array.replicate_zero, List.push_toArray, List.append_toArray, List.nil_append, List.cons_append]
  gi_wp2
  go_ret
  exact ⟨rfl, rfl⟩
/-- An append whose run is known, at one operation in a fence. -/
theorem wpIn_app_run {F : Fence} {n : Nat} {w w' : World} {o : Oper} {a : Act} {K : Act → World → Prop} {Q : Exit → Act → World → Prop} (s x : Operand) (t ty : TypeId) (ho : o.op = .call { callee := .builtin .append, args := #[s, x], argTypes := #[t, t] }) (hty : o.type = ty) (v vx v' : Value) (hs : a.eval s = v) (hx : a.eval x = vx)
    (hrun : (Builtin.append_ #[t, t] ty #[v, vx]).run Try.prog w = .ok v' w') (h : K (a.put o.dst v') w') : Oper.wpIn F n Try.prog o a w K Q := by
  subst hty
  unfold Oper.wpIn
  refine ⟨by simp [Oper.about, ho, resolve, Target.leads, Sem.run_pure], ?_⟩
  rw [Oper.semAt_plain F _ _ (by rw [ho]; intro c hc'; cases hc')]
  simp [execOp, ho, resolve, invoke, builtin, hs, hx, hrun, Result.andThen]
  exact h
theorem infoEn : (Try.prog.info? 36).map (fun i => (i.zero, i.size, i.bytes)) = some (some (.agg #[.slice none 0 0, .int .u64 0, .bool false, .int .i64 0, .int .u64 0, .int .i64 0, .int .i64 0]), 7, 72) := by kernel_rfl
theorem own_set {W : World} {base B : Nat} {t : TypeId} {v u : Value} {l : List UInt8} (u' : Value) (h : Own W base v l) (hb : Boxed W B t u) (ht : t ≠ 5) : Own (W.setCell ⟨B, 0, none⟩ u') base v l :=
  World.ownsRow.kept h (grownBy_setCell' W B u') (.inr (hb.not_row ht h).symm)
theorem own_grown {W w1 : World} {base base' size : Nat} {e : TypeId} {v z : Value} {l : List UInt8} {k : Nat} {xs : List Value} (tmp : Obj) (h : Own W base v l) (hr : W.ownsRow base' e size z k xs) (he : e ≠ 5) (hg : (W.alloc tmp).grownBy w1 z.ownBlock) : Own w1 base v l := by
  refine World.ownsRow.kept (h.alloc tmp) hg ?_
  rcases h.2 with ⟨rfl, _⟩ | ⟨g, cap, cur, rfl, _, hgb, _⟩
  · exact .inl rfl
  · refine .inr fun e' => ?_
    rcases hr.2 with ⟨rfl, _⟩ | ⟨g', cap', cur', rfl, _, hgb', _⟩
    · simp [Value.ownBlock] at e'
    · obtain rfl : g = g' := by simpa [Value.ownBlock] using e'
      rw [hgb] at hgb'
      simp at hgb'
      exact he hgb'.2.symm
theorem keeps_below {A B : World} (h : Below A.heap.size A B) : KeepsOthers A B := ⟨h.size, fun k _ hk _ => (h.block k (Array.getElem?_eq_some_iff.1 hk).1).trans hk⟩
/-- What is found: slices, keys, what is known. -/
structure Ev where
  kv : Value
  k : Ks
  a : Ag
def c7 (x : Ev) : List Value := [x.kv, .int .u64 x.a.c, .bool x.a.o, .int .i64 (hi x.a.s), .int .u64 (lo x.a.s), .int .i64 x.a.mn, .int .i64 x.a.mx]
def evE (x : Ev) : En := (x.k, x.a)
/-- A slice of entries of one's own. -/
def EOwn (W : World) (base : Nat) (v : Value) (xs : List Ev) : Prop := W.ownsRow base 36 7 v xs.length (xs.flatMap c7) ∧ ∀ x ∈ xs, Own W base x.kv x.k
def ISk (w : World) (most : Int) (pre : List Nd) (W : World) : Prop :=
  (∃ v xs, Boxed W (w.heap.size + 1) 26 v ∧ EOwn W w.heap.size v xs ∧ xs.map evE = ents pre) ∧ Boxed W w.heap.size 3 (.int .i64 most) ∧ Below w.heap.size w W ∧ (pre.length : Int) < most
def XSk (w : World) (most : Int) (c : Code) (pre : List Nd) (W : World) : Prop :=
  c = .exit 0 ∧ (∃ v xs, Boxed W (w.heap.size + 1) 26 v ∧ EOwn W w.heap.size v xs ∧ xs.map evE = ents pre) ∧ Below w.heap.size w W ∧ (pre.length : Int) = most
theorem boxed_kc {n : Nat} {A B : World} {b : Nat} {t : TypeId} {v : Value} (h : Boxed A b t v) (hk : Kc n A B) : Boxed B b t v := hk.c _ _ _ _ h
theorem EOwn.kc {n : Nat} {A B : World} {base : Nat} {v : Value} {xs : List Ev} (h : EOwn A base v xs) (hk : Kc n A B) : EOwn B base v xs := by
  obtain ⟨h1, h2⟩ := h
  refine ⟨?_, fun x hx => ?_⟩
  · obtain ⟨q1, q2⟩ := h1
    refine ⟨q1, ?_⟩
    rcases q2 with q2 | ⟨g, cap, cur, hv, hg, hw, r⟩
    · exact .inl q2
    · exact .inr ⟨g, cap, cur, hv, hg, hk.c _ _ _ _ hw, r⟩
  · obtain ⟨q1, q2⟩ := h2 x hx
    refine ⟨q1, ?_⟩
    rcases q2 with q2 | ⟨g, cap, cur, hv, hg, hw, r⟩
    · exact .inl q2
    · exact .inr ⟨g, cap, cur, hv, hg, hk.c _ _ _ _ hw, r⟩
theorem isk_kc {w : World} {most : Int} (pre : List Nd) (A B : World) (h : ISk w most pre A) (hk : Kc w.heap.size A B) : ISk w most pre B := by
  obtain ⟨⟨v, xs, h1, h2, h3⟩, h4, h5, h6⟩ := h
  exact ⟨⟨v, xs, boxed_kc h1 hk, h2.kc hk, h3⟩, boxed_kc h4 hk, h5.trans hk.b, h6⟩
theorem xsk_kc {w : World} {most : Int} (c : Code) (pre : List Nd) (A B : World) (h : XSk w most c pre A) (hk : Kc w.heap.size A B) : XSk w most c pre B := by
  obtain ⟨h0, ⟨v, xs, h1, h2, h3⟩, h5, h6⟩ := h
  exact ⟨h0, ⟨v, xs, boxed_kc h1 hk, h2.kc hk, h3⟩, h5.trans hk.b, h6⟩
theorem four_boxes (w : World) (v1 v2 v3 v4 : Value) (t1 t2 t3 t4 : TypeId) :
    Hid (Below w.heap.size w ((((w.alloc (.cells #[v1] t1)).alloc (.cells #[v2] t2)).alloc (.cells #[v3] t3)).alloc (.cells #[v4] t4))) ∧
    Hid (Boxed ((((w.alloc (.cells #[v1] t1)).alloc (.cells #[v2] t2)).alloc (.cells #[v3] t3)).alloc (.cells #[v4] t4)) w.heap.size t1 v1) ∧
    Hid (Boxed ((((w.alloc (.cells #[v1] t1)).alloc (.cells #[v2] t2)).alloc (.cells #[v3] t3)).alloc (.cells #[v4] t4)) (w.heap.size + 1) t2 v2) ∧
    Hid (Boxed ((((w.alloc (.cells #[v1] t1)).alloc (.cells #[v2] t2)).alloc (.cells #[v3] t3)).alloc (.cells #[v4] t4)) (w.heap.size + 1 + 1) t3 v3) ∧
    Hid (Boxed ((((w.alloc (.cells #[v1] t1)).alloc (.cells #[v2] t2)).alloc (.cells #[v3] t3)).alloc (.cells #[v4] t4)) (w.heap.size + 1 + 1 + 1) t4 v4) := by
  refine ⟨((((Below.refl _ w).alloc (Nat.le_refl _) _).alloc (by simp) _).alloc (by simp; omega) _).alloc (by simp; omega) _, (((Boxed.new w _ _).alloc _).alloc _).alloc _, ?_, ?_, ?_⟩
  · have := ((Boxed.new (w.alloc (.cells #[v1] t1)) t2 v2).alloc (.cells #[v3] t3)).alloc (.cells #[v4] t4)
    rw [World.size_alloc] at this; exact this
  · have := (Boxed.new ((w.alloc (.cells #[v1] t1)).alloc (.cells #[v2] t2)) t3 v3).alloc (.cells #[v4] t4)
    rw [World.size_alloc, World.size_alloc] at this; exact this
  · have := Boxed.new (((w.alloc (.cells #[v1] t1)).alloc (.cells #[v2] t2)).alloc (.cells #[v3] t3)) t4 v4
    rw [World.size_alloc, World.size_alloc, World.size_alloc] at this; exact this
set_option maxRecDepth 100000 in
set_option maxHeartbeats 2000000 in
theorem seek_in (n : Nat) (hn : 5 ≤ n) (L0 : Nat) (N : List Nd) (sz : Int) (fr : Bool) (kv : Value) (key : Ks) (most : Int) (hm1 : 1 ≤ most) (w : World) (base : Nat) (hS : SL w base L0 N sz fr) (hR : Reads w kv key) :
    CallsIn Fence.wide n Try.prog 10 #[.pointer (some ⟨L0, 0, none⟩), kv, .int .i64 most] w fun e W' => ∃ v xs, e = .returned v ∧ EOwn W' w.heap.size v xs ∧ xs.map evE = (ents (N.drop (plK (N.map Nd.k) key))).take most.toNat ∧ Below w.heap.size w W' := by
  have h1 : 1 ≤ n := by omega
  obtain ⟨ak, ck, rfl, _⟩ := hR.form
  have hml : ¬ most < 1 := by omega
  refine callsIn_of_wp_marks Try.func10 rfl trivial ?_ rfl
  simp only [Try.ntmps10, List.size_toArray, List.length_cons, List.length_nil, Nat.reduceAdd, Nat.reduceSub, Array.replicate_succ, Array.replicate_zero, List.push_toArray, List.append_toArray, List.nil_append, List.cons_append]
  gi_wp2_with fail
  refine ⟨trivial, ?_⟩
  refine (from_in _ _ _ _ _ _).mono ?_
  rintro e w' ⟨rfl, rfl⟩
  simp only [World.size_alloc]
  obtain ⟨HB0, HX0, HX1, HX2, HX3⟩ := four_boxes w (.int .i64 most) (.slice none 0 0) (.pointer (some ⟨L0, 0, none⟩)) (.slice ak key.length ck) 3 26 23 29
  obtain ⟨i, Hi⟩ := hid_ex (plK (N.map Nd.k) key)
  have HS : Hid (SL w base L0 N sz fr) := hS
  have HR : Hid (Reads w (.slice ak key.length ck) key) := hR
  clear hS hR
  gi_wp2_with fail
  refine wpIn_range_y rfl h1 (gf := 38) (lb := #[.pointer (some ⟨w.heap.size + 1 + 1, 0, none⟩), .pointer (some ⟨w.heap.size + 1 + 1 + 1, 0, none⟩)]) rfl trivial (enters_of Try.func38 (by kernel_rfl) rfl) (encs := encN) (fun _ => rfl) (ISk w most) (XSk w most) (PreN N (plK (N.map Nd.k) key)) (fun xs => xs = N.drop (plK (N.map Nd.k) key)) (fun xs => ∃ m, xs = (N.drop (plK (N.map Nd.k) key)).take m) w.heap.size HB0.out.size
    (fun l J Jx W hK hn₀ hJ _ hY h0 => (from1_in (n - 1) (by omega) l (w.heap.size + 1 + 1) (w.heap.size + 1 + 1 + 1) L0 N sz fr _ key w base HS.out HR.out J Jx W (HB0.out.trans hK.b) hJ hY (boxed_kc HX2.out hK).cell (boxed_kc HX3.out hK).cell h0).mono ?_)
    isk_kc xsk_kc (fun _ _ _ _ hp _ => hp) ⟨⟨_, [], HX1.out, ⟨World.ownsRow_nil _ _ _ _, fun _ h => by cases h⟩, rfl⟩, HX0.out, HB0.out, by simp; omega⟩
    (fun x b => { tmps := #[.pointer (some ⟨L0, 0, none⟩), .slice ak key.length ck, .int .i64 most, undef, undef, .pointer (some ⟨w.heap.size, 0, none⟩), .slice none 0 0, .pointer (some ⟨w.heap.size + 1, 0, none⟩), .pointer (some ⟨b, 0, none⟩), .pointer (some ⟨L0, 0, none⟩), .bool false, .bool false, .int .i64 most, .bool false, .bool false, .pointer (some ⟨L0, 0, none⟩), .slice ak key.length ck, .func (.func 38) #[] #[.pointer (some ⟨w.heap.size + 1 + 1, 0, none⟩), .pointer (some ⟨w.heap.size + 1 + 1 + 1, 0, none⟩)], env x.kv x.a, undef, undef, undef, undef, undef, undef, undef, undef, undef, undef], defers := [] })
    (fun x W => W.alloc (.cells #[x.kv, .int .u64 x.a.c, .bool x.a.o, .int .i64 (hi x.a.s), .int .u64 (lo x.a.s), .int .i64 x.a.mn, .int .i64 x.a.mx] 36)) (fun x W => (Below.refl _ _).alloc (Nat.le_refl _) _) ?assign ?body ?done ?left
  · rintro e W' ⟨hv, hJ | hX⟩
    · exact ⟨hv, .inl ⟨_, rfl, hJ⟩⟩
    · exact ⟨hv, .inr hX⟩
  case assign =>
    rintro l pre x W K ⟨hp1, hp2, _⟩ hK
    obtain ⟨av, cv, hkv, _⟩ := (HS.out.1.ky _ hp1).form
    rw [← hp2] at hkv
    obtain ⟨xb, xkv, xk, xa, xh⟩ := x
    simp only at hkv
    subst hkv
    clear hp2
    dsimp only [encN, env] at hK ⊢
    gi_wp2
    exact hK
  case body =>
    rintro l pre x W₁ W ⟨⟨v, xs, hv, hE, hmap⟩, hM, hB, hlt⟩ ⟨hp1, hp2, hp3⟩ hnW hsz hKc
    have hkO := HS.out.1.ky _ hp1
    have hkl := HS.out.2.kl _ (List.getElem_mem hp1)
    obtain ⟨av, cv, hkv, hlx⟩ := hkO.form
    clear hlx
    rw [← hp2] at hkv hkO hkl
    obtain ⟨xb, xkv, xk, xa, xh⟩ := x
    simp only at hkv hkO hkl
    subst hkv
    have HXB : Hid (W.heap[W₁.heap.size]? = some (.cells #[.slice av xk.length cv, .int .u64 xa.c, .bool xa.o, .int .i64 (hi xa.s), .int .u64 (lo xa.s), .int .i64 xa.mn, .int .i64 xa.mx] 36)) := hKc.c _ _ _ _ (World.alloc_heap_new _ _)
    obtain ⟨a0, _⟩ := cell_row HXB.out 0 (by simp)
    obtain ⟨a1, _⟩ := cell_row HXB.out 1 (by simp)
    obtain ⟨a2, _⟩ := cell_row HXB.out 2 (by simp)
    obtain ⟨a3, _⟩ := cell_row HXB.out 3 (by simp)
    obtain ⟨a4, _⟩ := cell_row HXB.out 4 (by simp)
    obtain ⟨a5, _⟩ := cell_row HXB.out 5 (by simp)
    obtain ⟨a6, _⟩ := cell_row HXB.out 6 (by simp)
    simp only [List.getElem_toArray, List.getElem_cons_succ, List.getElem_cons_zero] at a0 a1 a2 a3 a4 a5 a6
    have HKR : Hid (Reads W (.slice av xk.length cv) xk) := hkO.reads.below hB
    have hc := hv.cell
    have hcM := hM.cell
    clear hp2 hkO hKc
    dsimp only [env]
    refine wpIn_block ?_
    refine wpIn_seq_k (fun K hKK => ?_)
    obtain ⟨av0, cv0, hvf⟩ : ∃ a c, v = .slice a xs.length c := by
      rcases hE.1.2 with ⟨h1, h2⟩ | ⟨g, cap, cur, h1, _⟩
      · exact ⟨none, 0, by rw [h1, h2]⟩
      · exact ⟨_, cap, h1⟩
    subst hvf
    have HV : Hid _ := hv
    have HMAP : Hid _ := hmap
    have HE : Hid _ := hE
    have HM : Hid _ := hM
    have HB : Hid _ := hB
    have HLX : Hid (xs.length = pre.length ∧ pre.length < 4096) := by
      have h1 := congrArg List.length hmap
      simp [ents] at h1
      have h2 := HS.out.2.le
      exact ⟨h1, by omega⟩
    clear hp3 hp1 hmap hE hM hv hB
    have APP : ∀ (w4 : World) (a4 : Option Addr) (c4 : Nat), Below W.heap.size W w4 → Own w4 w.heap.size (.slice a4 xk.length c4) xk → Boxed w4 (w.heap.size + 1) 26 (.slice av0 xs.length cv0) →
        ∃ v6 w6, (Builtin.append_ #[26, 26] 26 #[.slice av0 xs.length cv0, .slice (some ⟨w4.heap.size, 0, none⟩) 1 1]).run Try.prog (w4.alloc (.cells #[.slice a4 xk.length c4, .int .u64 xa.c, .bool xa.o, .int .i64 (hi xa.s), .int .u64 (lo xa.s), .int .i64 xa.mn, .int .i64 xa.mx] 36)) = .ok v6 w6 ∧
          ∃ g6 cap6, v6 = .slice (some ⟨g6, 0, none⟩) (xs.length + 1) cap6 ∧ w6.cell? ⟨w.heap.size + 1, 0, none⟩ = some (.slice av0 xs.length cv0) ∧ w6.frozen? ⟨w.heap.size + 1, 0, none⟩ = false ∧
            (Boxed (w6.setCell ⟨w.heap.size + 1, 0, none⟩ (.slice (some ⟨g6, 0, none⟩) (xs.length + 1) cap6)) (w.heap.size + 1) 26 (.slice (some ⟨g6, 0, none⟩) (xs.length + 1) cap6) ∧ EOwn (w6.setCell ⟨w.heap.size + 1, 0, none⟩ (.slice (some ⟨g6, 0, none⟩) (xs.length + 1) cap6)) w.heap.size (.slice (some ⟨g6, 0, none⟩) (xs.length + 1) cap6) (xs ++ [⟨.slice a4 xk.length c4, xk, xa⟩]) ∧ Boxed (w6.setCell ⟨w.heap.size + 1, 0, none⟩ (.slice (some ⟨g6, 0, none⟩) (xs.length + 1) cap6)) w.heap.size 3 (.int .i64 most) ∧ KeepsOthers W (w6.setCell ⟨w.heap.size + 1, 0, none⟩ (.slice (some ⟨g6, 0, none⟩) (xs.length + 1) cap6)) ∧ Below w.heap.size W (w6.setCell ⟨w.heap.size + 1, 0, none⟩ (.slice (some ⟨g6, 0, none⟩) (xs.length + 1) cap6))) := by
      intro w4 a4 c4 hb4 ho4 hv4
      obtain ⟨i0, hi0, hz0, hz1, hz2⟩ := info_parts infoEn
      have hk4 : Kc w.heap.size W w4 := Kc.of_below hb4 HB.out.size
      have hQ4 := EOwn.kc HE.out hk4
      have hM4 := boxed_kc HM.out hk4
      have hs4 := hb4.size
      have hsW := HB.out.size
      obtain ⟨v6, w6, hrun, hown, hgrow, _⟩ := run_append_own (P := Try.prog) (w4.alloc (.cells #[.slice a4 xk.length c4, .int .u64 xa.c, .bool xa.o, .int .i64 (hi xa.s), .int .u64 (lo xa.s), .int .i64 xa.mn, .int .i64 xa.mx] 36)) w.heap.size 26 26 36 i0 _ 7 72 Try.underlying26 hi0 hz0 hz1 hz2 rfl (by decide) (.slice av0 xs.length cv0) xs.length (xs.flatMap c7) (hQ4.1.alloc _) ⟨w4.heap.size, 0, none⟩ 1 1 (c7 ⟨.slice a4 xk.length c4, xk, xa⟩) rfl (by
        intro j u hj
        unfold c7 at hj
        have hc0 := World.alloc_heap_new w4 (.cells #[.slice a4 xk.length c4, .int .u64 xa.c, .bool xa.o, .int .i64 (hi xa.s), .int .u64 (lo xa.s), .int .i64 xa.mn, .int .i64 xa.mx] 36)
        have hj7 : j < 7 := by
          rcases Nat.lt_or_ge j 7 with h | h
          · exact h
          · rw [List.getElem?_eq_none (by simpa using h)] at hj; cases hj
        match j, hj7 with
        | 0, _ => (simp at hj; subst hj; exact (cell_row hc0 0 (by simp)).1)
        | 1, _ => (simp at hj; subst hj; exact (cell_row hc0 1 (by simp)).1)
        | 2, _ => (simp at hj; subst hj; exact (cell_row hc0 2 (by simp)).1)
        | 3, _ => (simp at hj; subst hj; exact (cell_row hc0 3 (by simp)).1)
        | 4, _ => (simp at hj; subst hj; exact (cell_row hc0 4 (by simp)).1)
        | 5, _ => (simp at hj; subst hj; exact (cell_row hc0 5 (by simp)).1)
        | 6, _ => (simp at hj; subst hj; exact (cell_row hc0 6 (by simp)).1)) (by intro u hu; simp [c7] at hu; rcases hu with rfl | rfl | rfl | rfl | rfl | rfl | rfl <;> rfl) (by have := HLX.out; unfold maxLen; omega) (by have := HLX.out; omega) (by simp; omega)
      obtain ⟨g6, cap6, rfl⟩ := ownsRow_succ hown
      obtain ⟨hv1, hv2, hr2, hkk, hb2⟩ := hv4.appended (by decide) hQ4.1 (by omega) (by omega) hown hgrow
      have hM1 : Boxed _ w.heap.size 3 _ := (hM4.alloc (.cells #[.slice a4 xk.length c4, .int .u64 xa.c, .bool xa.o, .int .i64 (hi xa.s), .int .u64 (lo xa.s), .int .i64 xa.mn, .int .i64 xa.mx] 36)).kept hgrow (hM4.not_row (by decide) hQ4.1)
      refine ⟨_, w6, hrun, g6, cap6, rfl, hv1.cell, hv1.frozen, hv2, ⟨?_, fun z hz => ?_⟩, hM1.kept (grownBy_setCell' _ _ _) (by simp), (keeps_below hb4).trans hkk, (hb4.mono HB.out.size).trans hb2⟩
      · rw [List.length_append, List.flatMap_append]
        simpa using hr2
      · have hold : ∀ (kz : Value) (Z : Ks), Own w4 w.heap.size kz Z → Own _ w.heap.size kz Z := fun kz Z hz => own_set (.slice (some ⟨g6, 0, none⟩) (xs.length + 1) cap6) (own_grown _ hz hQ4.1 (by decide) hgrow) hv1 (by decide)
        rcases List.mem_append.1 hz with hz | hz
        · exact hold _ _ (hQ4.2 z hz)
        · simp at hz; subst hz; exact hold _ _ ho4
    have REST : ∀ (w4 : World) (a4 : Option Addr) (c4 g6 cap6 : Nat) (w7 : World), (Boxed w7 (w.heap.size + 1) 26 (.slice (some ⟨g6, 0, none⟩) (xs.length + 1) cap6) ∧ EOwn w7 w.heap.size (.slice (some ⟨g6, 0, none⟩) (xs.length + 1) cap6) (xs ++ [⟨.slice a4 xk.length c4, xk, xa⟩]) ∧ Boxed w7 w.heap.size 3 (.int .i64 most) ∧ KeepsOthers W w7 ∧ Below w.heap.size W w7) →
        K { tmps := #[.pointer (some ⟨L0, 0, none⟩), .slice ak key.length ck, .int .i64 most, undef, undef, .pointer (some ⟨w.heap.size, 0, none⟩), .slice none 0 0, .pointer (some ⟨w.heap.size + 1, 0, none⟩), .pointer (some ⟨W₁.heap.size, 0, none⟩), .pointer (some ⟨L0, 0, none⟩), .bool false, .bool false, .int .i64 most, .bool false, .bool false, .pointer (some ⟨L0, 0, none⟩), .slice ak key.length ck, .func (.func 38) #[] #[.pointer (some ⟨w.heap.size + 1 + 1, 0, none⟩), .pointer (some ⟨w.heap.size + 1 + 1 + 1, 0, none⟩)], .agg #[.slice av xk.length cv, .int .u64 xa.c, .bool xa.o, .int .i64 (hi xa.s), .int .u64 (lo xa.s), .int .i64 xa.mn, .int .i64 xa.mx], .slice av0 xs.length cv0, .agg #[.slice av xk.length cv, .int .u64 xa.c, .bool xa.o, .int .i64 (hi xa.s), .int .u64 (lo xa.s), .int .i64 xa.mn, .int .i64 xa.mx], .agg #[.slice a4 xk.length c4, .int .u64 xa.c, .bool xa.o, .int .i64 (hi xa.s), .int .u64 (lo xa.s), .int .i64 xa.mn, .int .i64 xa.mx], .slice (some ⟨w4.heap.size, 0, none⟩) 1 1, .slice (some ⟨g6, 0, none⟩) (xs.length + 1) cap6, undef, undef, undef, undef, undef], defers := [] } w7 := by
      rintro w4 a4 c4 g6 cap6 w7 ⟨hv7, hE7, hM7, hk7, hb7⟩
      refine hKK _ _ ?_
      have hc7 := hv7.cell
      have hcM7 := hM7.cell
      have HLX2 : Hid ((xs ++ [(⟨.slice a4 xk.length c4, xk, xa⟩ : Ev)]).map evE = ents (pre ++ [⟨xb, .slice av xk.length cv, xk, xa, xh⟩])) := by
        unfold Hid ents; rw [List.map_append, List.map_append, HMAP.out]; rfl
      have HLP : Hid (xs.length = pre.length) := HLX.out.1
      have HE7 : Hid (EOwn w7 w.heap.size (.slice (some ⟨g6, 0, none⟩) (xs.length + 1) cap6) (xs ++ [⟨.slice a4 xk.length c4, xk, xa⟩])) := hE7
      clear hE7
      by_cases he : (xs.length : Int) + 1 = most
      · gi_wp2
        refine ⟨hk7, rfl, ⟨_, _, hv7, HE7.out, HLX2.out⟩, HB.out.trans hb7, ?_⟩
        have := HLP.out; simp; omega
      · gi_wp2
        refine ⟨hk7, hb7, ⟨_, _, hv7, HE7.out, HLX2.out⟩, hM7, HB.out.trans hb7, ?_⟩
        have := HLP.out; simp; omega
    refine wpIn_region_any (by kernel_rfl) ?_
    refine wpAnyIn_ready (rs := [0, 1]) (by kernel_rfl) (by simp) ?_
    refine AllReadyIn.cons rfl (fun K hK => ?_) (AllReadyIn.cons rfl (fun K hK => ?_) AllReadyIn.nil)
    · go_simp
      refine hK _ _ ?_
      refine wpAnyIn_ready (rs := [1]) (by kernel_rfl) (by simp) ?_
      refine AllReadyIn.cons rfl (fun K hK => ?_) AllReadyIn.nil
      go_simp
      refine hK _ _ ?_
      refine wpAnyIn_ready (rs := [2]) (by kernel_rfl) (by simp) ?_
      refine AllReadyIn.cons rfl (fun K hK => ?_) AllReadyIn.nil
      go_simp
      refine ⟨trivial, fun _ => by omega, ?_⟩
      refine CallsIn.inRound l ((callsIn_wide.2 (copied_any _ xk xa W.drew (HKR.out.below (Below.refl W.heap.size W).drew) (by omega) (by omega))).mono ?_)
      rintro e w4 ⟨kv4, rfl, ho4, hb4⟩
      obtain ⟨a4, c4, rfl, hl4⟩ := ho4.form
      clear hl4
      have HB4 : Hid (Below W.heap.size W w4) := (Below.refl W.heap.size W).drew.trans hb4
      have HO4 : Hid (Own w4 w.heap.size (.slice a4 xk.length c4) xk) := ho4.mono HB.out.size
      have hv4 : Boxed w4 (w.heap.size + 1) 26 (.slice av0 xs.length cv0) := boxed_kc HV.out (Kc.of_below HB4.out (Nat.le_refl _))
      have hc4 := hv4.cell
      have HV4 : Hid (Boxed w4 (w.heap.size + 1) 26 (.slice av0 xs.length cv0)) := hv4
      have hc5 := (hv4.alloc (.cells #[.slice a4 xk.length c4, .int .u64 xa.c, .bool xa.o, .int .i64 (hi xa.s), .int .u64 (lo xa.s), .int .i64 xa.mn, .int .i64 xa.mx] 36)).cell
      clear ho4 hb4 hv4
      unfold env
      refine hK _ _ ?_
      refine wpAnyIn_ready (rs := [3]) (by kernel_rfl) (by simp) ?_
      refine AllReadyIn.cons rfl (fun K hK => ?_) AllReadyIn.nil
      go_simp
      refine hK _ _ ?_
      refine wpAnyIn_ready (rs := [4]) (by kernel_rfl) (by simp) ?_
      refine AllReadyIn.cons rfl (fun K hK => ?_) AllReadyIn.nil
      obtain ⟨v6, w6, hrun, g6, cap6, rfl, hv6, hf6, hFIN⟩ := APP w4 a4 c4 HB4.out HO4.out HV4.out
      have HFIN : Hid _ := hFIN
      clear hFIN
      rw [if_pos (by rfl)]
      refine wpIn_app_run _ _ _ _ rfl rfl _ _ _ (by rfl) (by rfl) hrun ?_
      go_simp
      refine hK _ _ ?_
      clear hrun
      refine wpAnyIn_ready (rs := [5]) (by kernel_rfl) (by simp) ?_
      refine AllReadyIn.cons rfl (fun K hK => ?_) AllReadyIn.nil
      go_simp
      refine hK _ _ ?_
      refine wpAnyIn_done (by kernel_rfl) ?_ _
      exact REST w4 a4 c4 g6 cap6 _ HFIN.out
    · go_simp
      refine hK _ _ ?_
      refine wpAnyIn_ready (rs := [0, 2]) (by kernel_rfl) (by simp) ?_
      refine AllReadyIn.cons rfl (fun K hK => ?_) (AllReadyIn.cons rfl (fun K hK => ?_) AllReadyIn.nil)
      · go_simp
        refine hK _ _ ?_
        refine wpAnyIn_ready (rs := [2]) (by kernel_rfl) (by simp) ?_
        refine AllReadyIn.cons rfl (fun K hK => ?_) AllReadyIn.nil
        go_simp
        refine ⟨trivial, fun _ => by omega, ?_⟩
        refine CallsIn.inRound l ((callsIn_wide.2 (copied_any _ xk xa W.drew (HKR.out.below (Below.refl W.heap.size W).drew) (by omega) (by omega))).mono ?_)
        rintro e w4 ⟨kv4, rfl, ho4, hb4⟩
        obtain ⟨a4, c4, rfl, hl4⟩ := ho4.form
        clear hl4
        have HB4 : Hid (Below W.heap.size W w4) := (Below.refl W.heap.size W).drew.trans hb4
        have HO4 : Hid (Own w4 w.heap.size (.slice a4 xk.length c4) xk) := ho4.mono HB.out.size
        have hv4 : Boxed w4 (w.heap.size + 1) 26 (.slice av0 xs.length cv0) := boxed_kc HV.out (Kc.of_below HB4.out (Nat.le_refl _))
        have hc4 := hv4.cell
        have HV4 : Hid (Boxed w4 (w.heap.size + 1) 26 (.slice av0 xs.length cv0)) := hv4
        have hc5 := (hv4.alloc (.cells #[.slice a4 xk.length c4, .int .u64 xa.c, .bool xa.o, .int .i64 (hi xa.s), .int .u64 (lo xa.s), .int .i64 xa.mn, .int .i64 xa.mx] 36)).cell
        clear ho4 hb4 hv4
        unfold env
        refine hK _ _ ?_
        refine wpAnyIn_ready (rs := [3]) (by kernel_rfl) (by simp) ?_
        refine AllReadyIn.cons rfl (fun K hK => ?_) AllReadyIn.nil
        go_simp
        refine hK _ _ ?_
        refine wpAnyIn_ready (rs := [4]) (by kernel_rfl) (by simp) ?_
        refine AllReadyIn.cons rfl (fun K hK => ?_) AllReadyIn.nil
        obtain ⟨v6, w6, hrun, g6, cap6, rfl, hv6, hf6, hFIN⟩ := APP w4 a4 c4 HB4.out HO4.out HV4.out
        have HFIN : Hid _ := hFIN
        clear hFIN
        rw [if_pos (by rfl)]
        refine wpIn_app_run _ _ _ _ rfl rfl _ _ _ (by rfl) (by rfl) hrun ?_
        go_simp
        refine hK _ _ ?_
        clear hrun
        refine wpAnyIn_ready (rs := [5]) (by kernel_rfl) (by simp) ?_
        refine AllReadyIn.cons rfl (fun K hK => ?_) AllReadyIn.nil
        go_simp
        refine hK _ _ ?_
        refine wpAnyIn_done (by kernel_rfl) ?_ _
        exact REST w4 a4 c4 g6 cap6 _ HFIN.out
      · go_simp
        refine ⟨trivial, fun _ => by omega, ?_⟩
        refine CallsIn.inRound l ((callsIn_wide.2 (copied_any _ xk xa W.drew (HKR.out.below (Below.refl W.heap.size W).drew) (by omega) (by omega))).mono ?_)
        rintro e w4 ⟨kv4, rfl, ho4, hb4⟩
        obtain ⟨a4, c4, rfl, hl4⟩ := ho4.form
        clear hl4
        have HB4 : Hid (Below W.heap.size W w4) := (Below.refl W.heap.size W).drew.trans hb4
        have HO4 : Hid (Own w4 w.heap.size (.slice a4 xk.length c4) xk) := ho4.mono HB.out.size
        have hv4 : Boxed w4 (w.heap.size + 1) 26 (.slice av0 xs.length cv0) := boxed_kc HV.out (Kc.of_below HB4.out (Nat.le_refl _))
        have hc4 := hv4.cell
        have HV4 : Hid (Boxed w4 (w.heap.size + 1) 26 (.slice av0 xs.length cv0)) := hv4
        have hc5 := (hv4.alloc (.cells #[.slice a4 xk.length c4, .int .u64 xa.c, .bool xa.o, .int .i64 (hi xa.s), .int .u64 (lo xa.s), .int .i64 xa.mn, .int .i64 xa.mx] 36)).cell
        clear ho4 hb4 hv4
        unfold env
        refine hK _ _ ?_
        refine wpAnyIn_ready (rs := [0, 3]) (by kernel_rfl) (by simp) ?_
        refine AllReadyIn.cons rfl (fun K hK => ?_) (AllReadyIn.cons rfl (fun K hK => ?_) AllReadyIn.nil)
        · go_simp
          refine hK _ _ ?_
          refine wpAnyIn_ready (rs := [3]) (by kernel_rfl) (by simp) ?_
          refine AllReadyIn.cons rfl (fun K hK => ?_) AllReadyIn.nil
          go_simp
          refine hK _ _ ?_
          refine wpAnyIn_ready (rs := [4]) (by kernel_rfl) (by simp) ?_
          refine AllReadyIn.cons rfl (fun K hK => ?_) AllReadyIn.nil
          obtain ⟨v6, w6, hrun, g6, cap6, rfl, hv6, hf6, hFIN⟩ := APP w4 a4 c4 HB4.out HO4.out HV4.out
          have HFIN : Hid _ := hFIN
          clear hFIN
          rw [if_pos (by rfl)]
          refine wpIn_app_run _ _ _ _ rfl rfl _ _ _ (by rfl) (by rfl) hrun ?_
          go_simp
          refine hK _ _ ?_
          clear hrun
          refine wpAnyIn_ready (rs := [5]) (by kernel_rfl) (by simp) ?_
          refine AllReadyIn.cons rfl (fun K hK => ?_) AllReadyIn.nil
          go_simp
          refine hK _ _ ?_
          refine wpAnyIn_done (by kernel_rfl) ?_ _
          exact REST w4 a4 c4 g6 cap6 _ HFIN.out
        · go_simp
          refine hK _ _ ?_
          refine wpAnyIn_ready (rs := [0]) (by kernel_rfl) (by simp) ?_
          refine AllReadyIn.cons rfl (fun K hK => ?_) AllReadyIn.nil
          go_simp
          refine hK _ _ ?_
          refine wpAnyIn_ready (rs := [4]) (by kernel_rfl) (by simp) ?_
          refine AllReadyIn.cons rfl (fun K hK => ?_) AllReadyIn.nil
          obtain ⟨v6, w6, hrun, g6, cap6, rfl, hv6, hf6, hFIN⟩ := APP w4 a4 c4 HB4.out HO4.out HV4.out
          have HFIN : Hid _ := hFIN
          clear hFIN
          rw [if_pos (by rfl)]
          refine wpIn_app_run _ _ _ _ rfl rfl _ _ _ (by rfl) (by rfl) hrun ?_
          go_simp
          refine hK _ _ ?_
          clear hrun
          refine wpAnyIn_ready (rs := [5]) (by kernel_rfl) (by simp) ?_
          refine AllReadyIn.cons rfl (fun K hK => ?_) AllReadyIn.nil
          go_simp
          refine hK _ _ ?_
          refine wpAnyIn_done (by kernel_rfl) ?_ _
          exact REST w4 a4 c4 g6 cap6 _ HFIN.out
  case done =>
    rintro D ys W hD hS2 ⟨⟨v, xs, hv, hE, hmap⟩, hM, hB, hlt⟩ hK
    have hc := hv.cell
    have HMAP : Hid _ := hmap
    have HE : Hid _ := hE
    clear hmap hE
    gi_wp2
    refine ⟨by simp, .inl ⟨_, _, rfl, run_takeDeferred hK, ?_⟩⟩
    have hs0 := HB0.out.size
    have hpk := Kc.put (n := w.heap.size) (.deferred none) hK rfl (by omega)
    refine ⟨_, results_tmp rfl _ _ _, v, xs, rfl, EOwn.kc HE.out hpk, ?_, hB.trans hpk.b⟩
    rw [HMAP.out, hS2, List.take_of_length_le]
    rw [hS2] at hlt
    unfold ents
    rw [List.length_map]
    omega
  case left =>
    rintro D ys c W hD ⟨m, hm⟩ ⟨rfl, ⟨v, xs, hv, hE, hmap⟩, hB, hlt⟩ hK
    have hc := hv.cell
    have HMAP : Hid _ := hmap
    have HE : Hid _ := hE
    clear hmap hE
    gi_wp2
    refine ⟨by simp, .inl ⟨_, _, rfl, run_takeDeferred hK, ?_⟩⟩
    have hs0 := HB0.out.size
    have hpk := Kc.put (n := w.heap.size) (.deferred none) hK rfl (by omega)
    refine ⟨_, results_tmp rfl _ _ _, v, xs, rfl, EOwn.kc HE.out hpk, ?_, hB.trans hpk.b⟩
    have hlen : ys.length = most.toNat := by omega
    rw [HMAP.out, ← hlen]
    unfold ents
    rw [← List.map_take]
    congr 1
    rw [hm, List.length_take]
    rcases Nat.le_total m (N.drop (plK (N.map Nd.k) key)).length with h | h
    · rw [Nat.min_eq_left h]
    · rw [Nat.min_eq_right h, List.take_of_length_le h, List.take_length]
end Go.Proofs.Ytbeemkcdpmbhmaa
