/- The contract of crc.All. -/
import Derived.Test.YtfhjhlddbcgfeaaF2
import Derived.RangeFuncBox
import Derived.Maps.AppendAt
import Derived.RegionIn
namespace Go.Proofs.Ytfhjhlddbcgfeaa
open Go.RowKit Go.Shelf
attribute [local go_sem] Oper.semAt_some

theorem frames_in (n : Nat) (v : Value) (bs : List UInt8) (w : World) (hR : Reads w v bs) :
    CallsIn Fence.wide n Try.prog 26 #[v] w fun e w' => e = .returned (.func (.func 28) #[] #[.pointer (some ⟨w.heap.size, 0, none⟩)]) ∧ w' = w.alloc (.cells #[v] 22) := by
  obtain ⟨a, cap, rfl, _⟩ := hR.form
  refine callsIn_of_wp Try.func26 rfl trivial ?_ rfl
  simp only [Try.ntmps26, List.size_toArray, List.length_cons, List.length_nil, Nat.reduceAdd, Nat.reduceSub, Array.replicate_succ, Array.replicate_zero, List.push_toArray, List.append_toArray, List.nil_append, List.cons_append]
  gi_wp2
  go_ret
  exact ⟨rfl, rfl⟩
theorem infoL : (Try.prog.info? 22).map (fun i => (i.zero, i.size, i.bytes)) = some (some (.slice none 0 0), 1, 24) := by kernel_rfl
theorem Own.kc {n : Nat} {A B : World} {base : Nat} {v : Value} {l : List UInt8} (h : Own A base v l) (hk : Kc n A B) : Own B base v l := by
  obtain ⟨h1, h2⟩ := h
  refine ⟨h1, ?_⟩
  rcases h2 with h2 | ⟨g, cap, cur, hv, hg, hw, r⟩
  · exact .inl h2
  · exact .inr ⟨g, cap, cur, hv, hg, hk.c _ _ _ _ hw, r⟩
theorem row_kc {n : Nat} {A B : World} {base : Nat} {e : TypeId} {size : Nat} {v : Value} {k : Nat} {xs : List Value} (h : A.ownsRow base e size v k xs) (hk : Kc n A B) : B.ownsRow base e size v k xs := by
  obtain ⟨h1, h2⟩ := h
  refine ⟨h1, ?_⟩
  rcases h2 with h2 | ⟨g, cap, cur, hv, hg, hw, r⟩
  · exact .inl h2
  · exact .inr ⟨g, cap, cur, hv, hg, hk.c _ _ _ _ hw, r⟩
theorem boxed_kc {n : Nat} {A B : World} {b : Nat} {t : TypeId} {v : Value} (h : Boxed A b t v) (hk : Kc n A B) : Boxed B b t v := hk.c _ _ _ _ h
/-- What All knows between two rounds. -/
def IAll (w : World) (L : Nat) (pre : List Fr) (W : World) : Prop :=
  (∃ v, Boxed W w.heap.size 34 v ∧ W.ownsRow w.heap.size 22 1 v pre.length (pre.map Fr.v)) ∧ Boxed W (w.heap.size + 1) 3 (.int .i64 (ksum (pre.map Fr.p) : Nat)) ∧ (∀ x ∈ pre, Own W w.heap.size x.v x.D) ∧ Below w.heap.size w W ∧ ksum (pre.map Fr.p) ≤ L
theorem iall_kc {w : World} {L : Nat} (pre : List Fr) (A B : World) (h : IAll w L pre A) (hk : Kc w.heap.size A B) : IAll w L pre B := by
  obtain ⟨⟨v, h1, h2⟩, h3, h4, h5, h6⟩ := h
  exact ⟨⟨v, boxed_kc h1 hk, row_kc h2 hk⟩, boxed_kc h3 hk, fun x hx => (h4 x hx).kc hk, h5.trans hk.b, h6⟩
theorem own_set {W : World} {base B : Nat} {t : TypeId} {v u : Value} {l : List UInt8} (u' : Value) (h : Own W base v l) (hb : Boxed W B t u) (ht : t ≠ 5) : Own (W.setCell ⟨B, 0, none⟩ u') base v l :=
  World.ownsRow.kept h (grownBy_setCell' W B u') (.inr (hb.not_row ht h).symm)
theorem own_grown {W w1 : World} {base base' : Nat} {e : TypeId} {v z : Value} {l : List UInt8} {k : Nat} {xs : List Value} (tmp : Obj) (h : Own W base v l) (hr : W.ownsRow base' e 1 z k xs) (he : e ≠ 5) (hg : (W.alloc tmp).grownBy w1 z.ownBlock) : Own w1 base v l := by
  refine World.ownsRow.kept (h.alloc tmp) hg ?_
  rcases h.2 with ⟨rfl, _⟩ | ⟨g, cap, cur, rfl, _, hgb, _⟩
  · exact .inl rfl
  · refine .inr fun e' => ?_
    rcases hr.2 with ⟨rfl, _⟩ | ⟨g', cap', cur', rfl, _, hgb', _⟩
    · simp [Value.ownBlock] at e'
    · obtain rfl : g = g' := by simpa [Value.ownBlock] using e'
      rw [hgb] at hgb'
      simp at hgb'
      exact he hgb'.2.symm
set_option maxRecDepth 100000 in
set_option maxHeartbeats 2000000 in
theorem all_in (n : Nat) (hn : 5 ≤ n) (v : Value) (bs : List UInt8) (hbl : bs.length ≤ 1000000) (w : World) (hR : Reads w v bs) :
    CallsIn Fence.wide n Try.prog 18 #[v] w fun e W' => ∃ (vl : Value) (xs : List Fr), e = .returned (.tuple #[vl, .int .i64 (ksum (alF (bs.length + 1) bs) : Nat)]) ∧ xs.map Fr.p = alF (bs.length + 1) bs ∧ W'.ownsRow w.heap.size 22 1 vl xs.length (xs.map Fr.v) ∧ (∀ x ∈ xs, Own W' w.heap.size x.v x.D) ∧ Below w.heap.size w W' := by
  have h1 : 1 ≤ n := by omega
  obtain ⟨i0, hi, hz0, hz1, hz2⟩ := info_parts infoL
  obtain ⟨a, cap, rfl, _⟩ := hR.form
  refine callsIn_of_wp_marks Try.func18 rfl trivial ?_ rfl
  simp only [Try.ntmps18, List.size_toArray, List.length_cons, List.length_nil, Nat.reduceAdd, Nat.reduceSub, Array.replicate_succ, Array.replicate_zero, List.push_toArray, List.append_toArray, List.nil_append, List.cons_append]
  gi_wp2_with fail
  refine ⟨trivial, ?_⟩
  refine (frames_in _ _ bs _ ((hR.alloc _).alloc _)).mono ?_
  rintro e w' ⟨rfl, rfl⟩
  simp only [World.size_alloc]
  have bO := Boxed.new w 34 (.slice none 0 0)
  have bT := Boxed.new (w.alloc (.cells #[.slice none 0 0] 34)) 3 (.int .i64 0)
  have bN := Boxed.new ((w.alloc (.cells #[.slice none 0 0] 34)).alloc (.cells #[.int .i64 0] 3)) 22 (.slice a bs.length cap)
  rw [World.size_alloc] at bT
  rw [World.size_alloc, World.size_alloc] at bN
  have hB0 : Below w.heap.size w (((w.alloc (.cells #[.slice none 0 0] 34)).alloc (.cells #[.int .i64 0] 3)).alloc (.cells #[.slice a bs.length cap] 22)) := (((Below.refl _ w).alloc (Nat.le_refl _) _).alloc (by simp) _).alloc (by simp; omega) _
  have bO2 := (bO.alloc (.cells #[.int .i64 0] 3)).alloc (.cells #[.slice a bs.length cap] 22)
  have bT2 := bT.alloc (.cells #[.slice a bs.length cap] 22)
  gi_wp2_with fail
  refine wpIn_range_pre rfl h1 (gf := 28) (lb := #[.pointer (some ⟨w.heap.size + 1 + 1, 0, none⟩)]) rfl trivial (enters_of Try.func28 (by kernel_rfl) rfl) (encs := Fr.encs) (fun _ => rfl) (IAll w bs.length) (PreF w.heap.size bs.length) (fun xs => xs.map Fr.p = alF (bs.length + 1) bs) w.heap.size (by simp; omega)
    (fun l J W hK hn₀ hJ hY h0 => frames1_in (n - 1) (by omega) l (w.heap.size + 1 + 1) _ bs hbl w hR J W (hB0.trans hK.b) hJ hY (boxed_kc bN hK).cell h0)
    iall_kc (fun _ _ _ _ hp hk => ⟨hp.1.kc hk, hp.2⟩) ⟨⟨_, bO2, World.ownsRow_nil _ _ _ _⟩, bT2, (fun _ h => by cases h), hB0, by simp [ksum]⟩
    (fun x => { tmps := #[.slice a bs.length cap, undef, .slice none 0 0, .int .i64 0, .pointer (some ⟨w.heap.size, 0, none⟩), .pointer (some ⟨w.heap.size + 1, 0, none⟩), x.v, .int .i64 (x.k : Int), .slice a bs.length cap, .func (.func 28) #[] #[.pointer (some ⟨w.heap.size + 1 + 1, 0, none⟩)], x.v, .int .i64 (x.k : Int), undef, undef, undef, undef, undef, undef, undef, undef, undef], defers := [] }) ?assign ?body ?done
  case assign =>
    intro l x W K hK
    dsimp only [Fr.encs]
    gi_wp2
    exact hK
  case body =>
    rintro l pre ⟨xv, D, k⟩ W ⟨⟨v', hv, hrow⟩, hT, hO, hB, hks⟩ ⟨hP1, hP2, hP3⟩ hnW
    dsimp only at hP1 hP2
    obtain ⟨av, cv, rfl, hDl⟩ := hP1.form
    have hc := hv.cell
    have hcT := hT.cell
    have hpl : pre.length ≤ 1000000 := by omega
    have hk0 : ksum ((pre ++ [(⟨.slice av D.length cv, D, k⟩ : Fr)]).map Fr.p) = ksum (pre.map Fr.p) + k := by rw [List.map_append]; exact ksum_snoc _ _
    gi_wp2_with (gi_at_builtin; refine wpListIn_append_own _ rfl _ _ 34 rfl w.heap.size 22 i0 (.slice none 0 0) 1 24 Try.underlying34 hi hz0 hz1 hz2 rfl (by decide) _ _ _ rfl (hrow.alloc _) ⟨W.heap.size, 0, none⟩ 1 1 [.slice av D.length cv] rfl rfl (cell_one_new _ _ _) (by simp [Value.oneCell']) (by unfold maxLen; omega) (by omega) (by have := hB.size; simp; omega) ?_; intro vq w1 hown' hgrow _; obtain ⟨g', cap', rfl⟩ := ownsRow_succ hown'; obtain ⟨hv1, hv2, hr2, hk2, hb2⟩ := hv.appended (by decide) hrow hB.size (Nat.le_refl _) hown' hgrow; have hc1 := hv1.cell; have hf1 := hv1.frozen; have hT1 : Boxed w1 (w.heap.size + 1) 3 _ := (hT.alloc _).kept hgrow (hT.not_row (by decide) hrow); have hT2 := hT1.kept (grownBy_setCell' w1 w.heap.size (.slice (some ⟨g', 0, none⟩) (pre.length + 1) cap')) (by simp); have hcT2 := hT2.cell; have hfT2 := hT2.frozen)
    have hv3 := hv2.kept (grownBy_setCell' _ (w.heap.size + 1) (.int .i64 ((ksum (pre.map Fr.p) : Int) + (k : Int)))) (by simp)
    have hT3 := hT2.set (.int .i64 ((ksum (pre.map Fr.p) : Int) + (k : Int)))
    have hr3 := hr2.kept (grownBy_setCell' _ (w.heap.size + 1) (.int .i64 ((ksum (pre.map Fr.p) : Int) + (k : Int)))) (.inr (hT2.not_row (by decide) hr2).symm)
    have hb3 := hb2.trans ((Below.refl w.heap.size _).setCell (p := ⟨w.heap.size + 1, 0, none⟩) (by simp) (.int .i64 ((ksum (pre.map Fr.p) : Int) + (k : Int))))
    have hO3 : ∀ (z : Value) (Z : List UInt8), Own W w.heap.size z Z → Own _ w.heap.size z Z := fun z Z hz => own_set (.int .i64 ((ksum (pre.map Fr.p) : Int) + (k : Int))) (own_set _ (own_grown _ hz hrow (by decide) hgrow) hv1 (by decide)) hT2 (by decide)
    refine ⟨hk2.trans (KeepsOthers.setCell _ _ _), hb3, ⟨_, hv3, by simpa using hr3⟩, ?_, ?_, hB.trans hb3, ?_⟩
    · rw [hk0]; exact hT3
    · intro z hz
      rcases List.mem_append.1 hz with hz | hz
      · exact hO3 _ _ (hO z hz)
      · simp at hz; subst hz; exact hO3 _ _ hP1
    · rw [hk0]; omega
  case done =>
    rintro D ys W hD hS ⟨⟨v', hv, hrow⟩, hT, hO, hB, hks⟩ hK
    have hc := hv.cell
    have hcT := hT.cell
    gi_wp2
    gi_region
    have hK2 : W.drew.heap[D]? = some (.deferred (some [])) := hK
    gi_wp2
    refine ⟨by simp, .inl ⟨_, _, rfl, run_takeDeferred hK2, ?_⟩⟩
    have hpk := Kc.put (n := w.heap.size) (.deferred none) hK2 rfl (by simp at hD; omega)
    have hdk : Kc w.heap.size W W.drew := ⟨(Below.refl _ _).drew, fun _ _ _ _ h => h⟩
    exact ⟨_, results_tmp2 rfl _ _ _, v', ys, rfl, hS, row_kc (row_kc hrow hdk) hpk, fun x hx => ((hO x hx).kc hdk).kc hpk, (hB.trans hdk.b).trans hpk.b⟩
end Go.Proofs.Ytfhjhlddbcgfeaa
