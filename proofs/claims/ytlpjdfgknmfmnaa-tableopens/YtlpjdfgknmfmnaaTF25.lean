/- BK8, joined. -/
import Derived.Test.YtlpjdfgknmfmnaaTF24
import Derived.Maps.AppendAt
/- The contract of Read. -/
namespace Go.Proofs.Ytlpjdfgknmfmnaa
open Go.RowKit Go.Shelf
attribute [local go_sem] Oper.semAt_some

theorem pairs_in (n : Nat) (v : Value) (bs : List UInt8) (w : World) (hR : Reads w v bs) :
    CallsIn Fence.wide n Try.prog 71 #[v] w fun e w' => e = .returned (.func (.func 93) #[] #[.pointer (some ⟨w.heap.size, 0, none⟩)]) ∧ w' = w.alloc (.cells #[v] 25) := by
  obtain ⟨a, cap, rfl, _⟩ := hR.form
  refine callsIn_of_wp Try.func71 rfl trivial ?_ rfl
  simp only [Try.ntmps71, List.size_toArray, List.length_cons, List.length_nil, Nat.reduceAdd, Nat.reduceSub, Array.replicate_succ, Array.replicate_zero, List.push_toArray, List.append_toArray, List.nil_append, List.cons_append]
  gi_wp2
  go_ret
  exact ⟨rfl, rfl⟩
theorem infoP : (Try.prog.info? 53).map (fun i => (i.zero, i.size, i.bytes)) = some (some (.agg #[.slice none 0 0, .slice none 0 0]), 2, 48) := by kernel_rfl
theorem Own.kc {n : Nat} {A B : World} {base : Nat} {v : Value} {l : List UInt8} (h : Own A base v l) (hk : Kc n A B) : Own B base v l := by
  obtain ⟨h1, h2⟩ := h
  refine ⟨h1, ?_⟩
  rcases h2 with h2 | ⟨g, cap, cur, hv, hg, hw, r⟩
  · exact .inl h2
  · exact .inr ⟨g, cap, cur, hv, hg, hk.c _ _ _ _ hw, r⟩
theorem row_kc {n : Nat} {A B : World} {base : Nat} {e : TypeId} {size : Nat} {v : Value} {k : Nat} {xs : List Value} (h : A.ownsRow base e size v k xs) (hk : Kc n A B) : B.ownsRow base e size v k xs := by
  obtain ⟨h1, h2⟩ := h
  refine ⟨h1, ?_⟩
  rcases h2 with h2 | ⟨g, cap, cur, hv, hg, hw, r⟩
  · exact .inl h2
  · exact .inr ⟨g, cap, cur, hv, hg, hk.c _ _ _ _ hw, r⟩
theorem boxed_kc {n : Nat} {A B : World} {b : Nat} {t : TypeId} {v : Value} (h : Boxed A b t v) (hk : Kc n A B) : Boxed B b t v := hk.c _ _ _ _ h
theorem own_grown {W w1 : World} {base base' size : Nat} {e : TypeId} {v z : Value} {l : List UInt8} {k : Nat} {xs : List Value} (tmp : Obj) (h : Own W base v l) (hr : W.ownsRow base' e size z k xs) (he : e ≠ 5) (hg : (W.alloc tmp).grownBy w1 z.ownBlock) : Own w1 base v l := by
  refine World.ownsRow.kept (h.alloc tmp) hg ?_
  rcases h.2 with ⟨rfl, _⟩ | ⟨g, cap, cur, rfl, _, hgb, _⟩
  · exact .inl rfl
  · refine .inr fun e' => ?_
    rcases hr.2 with ⟨rfl, _⟩ | ⟨g', cap', cur', rfl, _, hgb', _⟩
    · simp [Value.ownBlock] at e'
    · obtain rfl : g = g' := by simpa [Value.ownBlock] using e'
      rw [hgb] at hgb'
      simp at hgb'
      exact he hgb'.2.symm
theorem own_set {W : World} {base B : Nat} {t : TypeId} {v u : Value} {l : List UInt8} (u' : Value) (h : Own W base v l) (hb : Boxed W B t u) (ht : t ≠ 5) : Own (W.setCell ⟨B, 0, none⟩ u') base v l :=
  World.ownsRow.kept h (grownBy_setCell' W B u') (.inr (hb.not_row ht h).symm)
def p2 (x : Pe) : List Value := [x.kv, x.vv]
/-- A slice of pairs of one's own. -/
def POwn (W : World) (base : Nat) (v : Value) (xs : List Pe) : Prop := W.ownsRow base 53 2 v xs.length (xs.flatMap p2) ∧ ∀ x ∈ xs, Own W base x.kv x.p.1 ∧ Own W base x.vv x.p.2
theorem POwn.kc {n : Nat} {A B : World} {base : Nat} {v : Value} {xs : List Pe} (h : POwn A base v xs) (hk : Kc n A B) : POwn B base v xs :=
  ⟨row_kc h.1 hk, fun x hx => ⟨(h.2 x hx).1.kc hk, (h.2 x hx).2.kc hk⟩⟩
theorem POwn.below {A B : World} {base : Nat} {v : Value} {xs : List Pe} (h : POwn A base v xs) (hb : Below A.heap.size A B) : POwn B base v xs := h.kc (Kc.of_below hb (Nat.le_refl _))
theorem flat2 : ∀ (xs : List Pe) (j i : Nat) (hj : j < xs.length), i < 2 → (xs.flatMap p2)[2 * j + i]? = (p2 xs[j])[i]?
  | [], j, i, hj, _ => by simp at hj
  | x :: xs, 0, i, _, hi => by
    rw [List.flatMap_cons, List.getElem?_append_left (by simp [p2]; omega)]; simp
  | x :: xs, j + 1, i, hj, hi => by
    rw [List.flatMap_cons, List.getElem?_append_right (by simp [p2]; omega), show (p2 x).length = 2 from rfl, show 2 * (j + 1) + i - 2 = 2 * j + i by omega]
    exact flat2 xs j i (by simpa using hj) hi
theorem POwn.reads {w : World} {base : Nat} {v : Value} {xs : List Pe} (h : POwn w base v xs) : PReads w v (xs.map Pe.p) := by
  have hlt := World.ownsRow.lt h.1
  rcases h.1.2 with ⟨h1, h2⟩ | ⟨g, cap, cur, hv, hg, hw, hc, hm, _⟩
  · have : xs = [] := List.length_eq_zero_iff.1 h2
    subst this
    exact ⟨none, 0, by rw [h1]; rfl, by simp, by simp, .inl rfl⟩
  · have hr := h.1
    rw [hv] at hr
    refine ⟨some ⟨g, 0, none⟩, cap, by rw [hv]; simp, by simpa using hc, hm, ?_⟩
    refine .inr ⟨g, 0, rfl, (hlt g (by rw [hv]; rfl)).2, fun j hj => ?_⟩
    simp at hj
    have e : (xs.map Pe.p)[j]'(by simpa using hj) = xs[j].p := by simp
    rw [e]
    have c0 := World.ownsRow.cellAt hr (2 * j + 0) (by omega)
    have c1 := World.ownsRow.cellAt hr (2 * j + 1) (by omega)
    rw [flat2 xs j 0 hj (by decide)] at c0
    rw [flat2 xs j 1 hj (by decide)] at c1
    have hx := h.2 _ (List.getElem_mem hj)
    refine ⟨xs[j].kv, xs[j].vv, ?_, ?_, hx.1.reads, hx.2.reads⟩
    · rw [show 0 + j * 2 = 2 * j + 0 by omega, c0]; rfl
    · rw [show 0 + j * 2 + 1 = 2 * j + 1 by omega, c1]; rfl
def IRd (w : World) (bs : List UInt8) (pre : List Pe) (W : World) : Prop :=
  (∃ v, Boxed W w.heap.size 47 v ∧ POwn W w.heap.size v pre) ∧ (∃ n c a, Boxed W (w.heap.size + 1) 25 (.slice a n c) ∧ Reads w (.slice a n c) (lastR bs pre)) ∧ Below w.heap.size w W
theorem ird_kc {w : World} {bs : List UInt8} (pre : List Pe) (A B : World) (h : IRd w bs pre A) (hk : Kc w.heap.size A B) : IRd w bs pre B := by
  obtain ⟨⟨v, h1, h2⟩, ⟨n, c, a, h3, h4⟩, h5⟩ := h
  exact ⟨⟨v, boxed_kc h1 hk, h2.kc hk⟩, ⟨n, c, a, boxed_kc h3 hk, h4⟩, h5.trans hk.b⟩
/-- What Read tells. -/
def RdPost (w : World) (bs : List UInt8) (e : Ending) (W' : World) : Prop :=
  Below w.heap.size w W' ∧ match rdB bs with
    | none => e = .returned (.tuple #[.slice none 0 0, .int .i64 60])
    | some l => ∃ u xs, e = .returned (.tuple #[u, .int .i64 0]) ∧ xs.map Pe.p = l ∧ POwn W' w.heap.size u xs
set_option maxRecDepth 100000 in
set_option maxHeartbeats 2000000 in
theorem read_in (n : Nat) (hn : 5 ≤ n) (v : Value) (bs : List UInt8) (hbl : bs.length ≤ 1000000) (w : World) (hR : Reads w v bs) :
    CallsIn Fence.wide n Try.prog 35 #[v] w fun e W' => RdPost w bs e W' := by
  have h1 : 1 ≤ n := by omega
  obtain ⟨i0, hi, hz0, hz1, hz2⟩ := info_parts infoP
  obtain ⟨a, cap, rfl, _⟩ := hR.form
  refine callsIn_of_wp_marks Try.func35 rfl trivial ?_ rfl
  simp only [Try.ntmps35, List.size_toArray, List.length_cons, List.length_nil, Nat.reduceAdd, Nat.reduceSub, Array.replicate_succ, Array.replicate_zero, List.push_toArray, List.append_toArray, List.nil_append, List.cons_append]
  gi_wp2_with fail
  refine ⟨trivial, ?_⟩
  refine (pairs_in _ _ bs _ ((hR.alloc _).alloc _)).mono ?_
  rintro e w' ⟨rfl, rfl⟩
  simp only [World.size_alloc]
  have bO := Boxed.new w 47 (.slice none 0 0)
  have bT := Boxed.new (w.alloc (.cells #[.slice none 0 0] 47)) 25 (.slice a bs.length cap)
  have bN := Boxed.new ((w.alloc (.cells #[.slice none 0 0] 47)).alloc (.cells #[.slice a bs.length cap] 25)) 25 (.slice a bs.length cap)
  rw [World.size_alloc] at bT
  rw [World.size_alloc, World.size_alloc] at bN
  have hB0 : Below w.heap.size w (((w.alloc (.cells #[.slice none 0 0] 47)).alloc (.cells #[.slice a bs.length cap] 25)).alloc (.cells #[.slice a bs.length cap] 25)) := (((Below.refl _ w).alloc (Nat.le_refl _) _).alloc (by simp) _).alloc (by simp; omega) _
  have bO2 := (bO.alloc (.cells #[.slice a bs.length cap] 25)).alloc (.cells #[.slice a bs.length cap] 25)
  have bT2 := bT.alloc (.cells #[.slice a bs.length cap] 25)
  gi_wp2_with fail
  refine wpIn_range_z rfl h1 (gf := 93) (lb := #[.pointer (some ⟨w.heap.size + 1 + 1, 0, none⟩)]) rfl trivial (enters_of Try.func93 (by kernel_rfl) rfl) (encs := Pe.encs) (fun _ => rfl) (IRd w bs) (fun _ _ _ => False) (PreP w) (SP bs) (fun _ => True) w.heap.size (by simp; omega)
    (fun l J Jx W hK hn₀ hJ hJx hY h0 => pairs1_in (n - 1) (by omega) l (w.heap.size + 1 + 1) _ bs hbl w hR J Jx W (hB0.trans hK.b) hJ hJx hY (boxed_kc bN hK).cell h0)
    ird_kc (fun _ _ _ _ h _ => h) (fun _ _ _ _ hp hk => ⟨hp.1.kc hk, hp.2.1.kc hk, hp.2.2⟩) ⟨⟨_, bO2, World.ownsRow_nil _ _ _ _, fun _ h => by cases h⟩, ⟨_, _, _, bT2, hR⟩, hB0⟩
    (fun x b => { tmps := #[.slice a bs.length cap, undef, .slice none 0 0, .int .i64 0, .pointer (some ⟨w.heap.size, 0, none⟩), .pointer (some ⟨w.heap.size + 1, 0, none⟩), .pointer (some ⟨b, 0, none⟩), x.bv, .slice a bs.length cap, .slice a bs.length cap, .func (.func 93) #[] #[.pointer (some ⟨w.heap.size + 1 + 1, 0, none⟩)], .agg #[x.kv, x.vv], x.bv, undef, undef, undef, undef, undef, undef, undef, undef, undef], defers := [] })
    (fun x W => W.alloc (.cells #[x.kv, x.vv] 53)) (fun x W => (Below.refl _ _).alloc (Nat.le_refl _) _) ?assign ?body ?done ?left
  case assign =>
    rintro l pre ⟨xk, xv, xp, xb, xr⟩ W K ⟨hp1, hp2, hp3, _⟩ hK
    dsimp only at hp1 hp2 hp3
    obtain ⟨a1, c1, rfl, _⟩ := hp1.form
    obtain ⟨a2, c2, rfl, _⟩ := hp2.form
    obtain ⟨a3, c3, rfl, _⟩ := hp3.form
    dsimp only [Pe.encs] at hK ⊢
    gi_wp2
    exact hK
  case body =>
    rintro l pre ⟨xk, xv, xp, xb, xr⟩ W0 W₁ W ⟨⟨v₀, hv₀, hrow₀⟩, ⟨ln, lc, la, hl₀, hlr₀⟩, hB₀⟩ hk0 ⟨hp1, hp2, hp3, hpl⟩ hn0 hs0 hs1 hKc
    dsimp only at hp1 hp2 hp3
    obtain ⟨a1, c1, rfl, _⟩ := hp1.form
    obtain ⟨a2, c2, rfl, _⟩ := hp2.form
    obtain ⟨a3, c3, rfl, _⟩ := hp3.form
    have hv := boxed_kc hv₀ hk0
    have hrow := hrow₀.kc hk0
    have hlb := boxed_kc hl₀ hk0
    have hB := hB₀.trans hk0.b
    have hXB : W.heap[W₁.heap.size]? = some (.cells #[.slice a1 xp.1.length c1, .slice a2 xp.2.length c2] 53) := hKc.c _ _ _ _ (World.alloc_heap_new _ _)
    have x0 := cell_rw hXB 0 (by simp)
    have x1 := cell_rw hXB 1 (by simp)
    simp only [List.getElem_toArray, List.getElem_cons_succ, List.getElem_cons_zero] at x0 x1
    have hob : ∀ k, v₀.ownBlock = some k → k < W0.heap.size := fun k hk => (World.ownsRow.lt hrow₀.1 k hk).2
    obtain ⟨av0, cv0, hvf⟩ : ∃ a c, v₀ = .slice a pre.length c := by
      rcases hrow.1.2 with ⟨h1, h2⟩ | ⟨g, cap, cur, h1, _⟩
      · exact ⟨none, 0, by rw [h1, h2]⟩
      · exact ⟨_, cap, h1⟩
    subst hvf
    have hc := hv.cell
    have hcl := hlb.cell
    have hfl := hlb.frozen
    have hsW := hB.size
    have hkW : W0.heap.size ≤ W.heap.size := by omega
    have hb1 : w.heap.size + 1 < W0.heap.size := (Array.getElem?_eq_some_iff.1 hl₀).1
    have hnews : ∀ j u, [Value.slice a1 xp.1.length c1, Value.slice a2 xp.2.length c2][j]? = some u → (W.alloc (.cells #[.slice a1 xp.1.length c1, .slice a2 xp.2.length c2] 53)).cell? ((⟨W.heap.size, 0, none⟩ : Addr).add j) = some u := news2
    gi_wp2_with (gi_at_builtin; refine wpListIn_append_own _ rfl _ _ 47 rfl w.heap.size 53 i0 _ 2 48 Try.underlying47 hi hz0 hz1 hz2 rfl (by decide) _ _ _ rfl (hrow.1.alloc _) ⟨W.heap.size, 0, none⟩ 1 1 [.slice a1 xp.1.length c1, .slice a2 xp.2.length c2] rfl rfl hnews (by simp [Value.oneCell']) (by unfold maxLen; omega) (by omega) (by simp; omega) ?_; intro vq w1 hown' hgrow _; obtain ⟨g', cap', rfl⟩ := ownsRow_succ hown'; obtain ⟨hv1, hv2, hr2, hk2, hb2⟩ := hv.appended (by decide) hrow.1 hB.size (Nat.le_refl _) hown' hgrow; have hc1 := hv1.cell; have hf1 := hv1.frozen; have hT1 : Boxed w1 (w.heap.size + 1) 25 _ := (hlb.alloc _).kept hgrow (hlb.not_row (by decide) hrow.1); have hT2 := hT1.kept (grownBy_setCell' w1 w.heap.size (.slice (some ⟨g', 0, none⟩) (pre.length + 1) cap')) (by simp); have hcT2 := hT2.cell; have hfT2 := hT2.frozen)
    have hv3 := hv2.kept (grownBy_setCell' _ (w.heap.size + 1) (.slice a3 xr.length c3)) (by simp)
    have hT3 := hT2.set (.slice a3 xr.length c3)
    have hr3 := hr2.kept (grownBy_setCell' _ (w.heap.size + 1) (.slice a3 xr.length c3)) (.inr (hT2.not_row (by decide) hr2).symm)
    have hb3 := hb2.trans ((Below.refl w.heap.size _).setCell (p := ⟨w.heap.size + 1, 0, none⟩) (by simp) (.slice a3 xr.length c3))
    have hO3 : ∀ (z : Value) (Z : List UInt8), Own W w.heap.size z Z → Own _ w.heap.size z Z := fun z Z hz => own_set (.slice a3 xr.length c3) (own_set (.slice (some ⟨g', 0, none⟩) (pre.length + 1) cap') (own_grown _ hz hrow.1 (by decide) hgrow) hv1 (by decide)) hT2 (by decide)
    refine ⟨hk2.trans (KeepsOthers.setCell _ _ _), hb3, fun c h1 h2 => ?_, ⟨_, hv3, ?_, fun z hz => ?_⟩, ⟨_, _, _, hT3, by rw [lastR_snoc]; exact hp3⟩, hB.trans hb3⟩
    · rw [Go.heap_setCell_other _ _ _ _ (by simp; omega), Go.heap_setCell_other _ _ _ _ (by simp; omega), hgrow.block c (by simp; omega) (fun e => by have := hob c (by first | exact e | exact e.symm); omega), Below.heap_alloc _ _ _ h2]
    · rw [List.length_append, List.flatMap_append]
      simpa [p2] using hr3
    · rcases List.mem_append.1 hz with hz | hz
      · exact ⟨hO3 _ _ (hrow.2 z hz).1, hO3 _ _ (hrow.2 z hz).2⟩
      · simp at hz; subst hz; exact ⟨hO3 _ _ hp1, hO3 _ _ hp2⟩
  case done =>
    rintro D ys W hD ⟨hS1, hS2⟩ ⟨⟨v', hv, hrow⟩, ⟨ln, lc, la, hl, hlr⟩, hB⟩ hK
    have hc := hv.cell
    have hcl := hl.cell
    rw [hS2] at hlr
    obtain ⟨la', lc', hlf, hlm⟩ := hlr.form
    unfold maxLen at hlm
    simp only [Value.slice.injEq] at hlf
    obtain ⟨rfl, rfl, rfl⟩ := hlf
    have hpk := Kc.put (n := w.heap.size) (.deferred none) hK rfl (by simp at hD; omega)
    have HRB : Hid (rdB bs = if (prF 4096 0 [] bs).2 = [] then some (prF 4096 0 [] bs).1 else none) := rfl
    rw [← hS1] at HRB
    obtain ⟨R, HRR⟩ := hid_ex (prF 4096 0 [] bs).2
    rw [← HRR.out] at hcl hlm HRB
    by_cases hz : R.length = 0
    · have hR0 : R = [] := List.length_eq_zero_iff.1 hz
      rw [if_pos hR0] at HRB
      rw [hz] at hcl
      gi_wp2
      refine ⟨by simp, .inl ⟨_, _, rfl, run_takeDeferred hK, ?_⟩⟩
      refine ⟨_, results_tmp2 rfl _ _ _, hB.trans hpk.b, ?_⟩
      rw [HRB.out]
      exact ⟨v', ys, rfl, rfl, hrow.kc hpk⟩
    · have hR0 : R ≠ [] := fun e => hz (by rw [e]; rfl)
      rw [if_neg hR0] at HRB
      have hpos : (0 : Int) < (R.length : Int) := by omega
      gi_wp2
      refine ⟨by simp, .inl ⟨_, _, rfl, run_takeDeferred hK, ?_⟩⟩
      refine ⟨_, results_tmp2 rfl _ _ _, hB.trans hpk.b, ?_⟩
      rw [HRB.out]
      rfl
  case left =>
    intro D xs c W _ _ h
    exact h.elim
theorem read_any (v : Value) (bs : List UInt8) (hbl : bs.length ≤ 1000000) (w : World) (hR : Reads w v bs) :
    Calls Try.prog 35 #[v] w fun e W' => RdPost w bs e W' := callsIn_wide.1 (read_in 5 (by decide) v bs hbl w hR)
end Go.Proofs.Ytlpjdfgknmfmnaa
