/- F3 V6 F4 FCt, joined. -/
import Derived.Test.YtlpjdfgknmfmnaaTF4
import Derived.Test.YtlpjdfgknmfmnaaTF12
import Derived.RangeFuncBox
import Derived.Maps.AppendAt
import Derived.RegionIn
import Derived.Lib.SmallJoins
/- The contract of crc.All. -/
namespace Go.Proofs.Ytlpjdfgknmfmnaa
open Go.RowKit Go.Shelf
attribute [local go_sem] Oper.semAt_some

theorem frames_in (n : Nat) (v : Value) (bs : List UInt8) (w : World) (hR : Reads w v bs) :
    CallsIn Fence.wide n Try.prog 69 #[v] w fun e w' => e = .returned (.func (.func 89) #[] #[.pointer (some ⟨w.heap.size, 0, none⟩)]) ∧ w' = w.alloc (.cells #[v] 25) := by
  obtain ⟨a, cap, rfl, _⟩ := hR.form
  refine callsIn_of_wp Try.func69 rfl trivial ?_ rfl
  simp only [Try.ntmps69, List.size_toArray, List.length_cons, List.length_nil, Nat.reduceAdd, Nat.reduceSub, Array.replicate_succ, Array.replicate_zero, List.push_toArray, List.append_toArray, List.nil_append, List.cons_append]
  gi_wp2
  go_ret
  exact ⟨rfl, rfl⟩
theorem infoL : (Try.prog.info? 25).map (fun i => (i.zero, i.size, i.bytes)) = some (some (.slice none 0 0), 1, 24) := by kernel_rfl
theorem Own.kcC {n : Nat} {A B : World} {base : Nat} {v : Value} {l : List UInt8} (h : Own A base v l) (hk : Kc n A B) : Own B base v l := by
  obtain ⟨h1, h2⟩ := h
  refine ⟨h1, ?_⟩
  rcases h2 with h2 | ⟨g, cap, cur, hv, hg, hw, r⟩
  · exact .inl h2
  · exact .inr ⟨g, cap, cur, hv, hg, hk.c _ _ _ _ hw, r⟩
theorem row_kc_C {n : Nat} {A B : World} {base : Nat} {e : TypeId} {size : Nat} {v : Value} {k : Nat} {xs : List Value} (h : A.ownsRow base e size v k xs) (hk : Kc n A B) : B.ownsRow base e size v k xs := by
  obtain ⟨h1, h2⟩ := h
  refine ⟨h1, ?_⟩
  rcases h2 with h2 | ⟨g, cap, cur, hv, hg, hw, r⟩
  · exact .inl h2
  · exact .inr ⟨g, cap, cur, hv, hg, hk.c _ _ _ _ hw, r⟩
theorem boxed_kc_C {n : Nat} {A B : World} {b : Nat} {t : TypeId} {v : Value} (h : Boxed A b t v) (hk : Kc n A B) : Boxed B b t v := hk.c _ _ _ _ h
/-- What All knows between two rounds. -/
def IAll (w : World) (L : Nat) (pre : List Fr) (W : World) : Prop :=
  (∃ v, Boxed W w.heap.size 68 v ∧ W.ownsRow w.heap.size 25 1 v pre.length (pre.map Fr.v)) ∧ Boxed W (w.heap.size + 1) 3 (.int .i64 (ksum (pre.map Fr.p) : Nat)) ∧ (∀ x ∈ pre, Own W w.heap.size x.v x.D) ∧ Below w.heap.size w W ∧ ksum (pre.map Fr.p) ≤ L
theorem iall_kc {w : World} {L : Nat} (pre : List Fr) (A B : World) (h : IAll w L pre A) (hk : Kc w.heap.size A B) : IAll w L pre B := by
  obtain ⟨⟨v, h1, h2⟩, h3, h4, h5, h6⟩ := h
  exact ⟨⟨v, boxed_kc_C h1 hk, row_kc_C h2 hk⟩, boxed_kc_C h3 hk, fun x hx => (h4 x hx).kcC hk, h5.trans hk.b, h6⟩
theorem own_set_C {W : World} {base B : Nat} {t : TypeId} {v u : Value} {l : List UInt8} (u' : Value) (h : Own W base v l) (hb : Boxed W B t u) (ht : t ≠ 5) : Own (W.setCell ⟨B, 0, none⟩ u') base v l :=
  World.ownsRow.kept h (grownBy_setCell' W B u') (.inr (hb.not_row ht h).symm)
theorem own_grown_C {W w1 : World} {base base' : Nat} {e : TypeId} {v z : Value} {l : List UInt8} {k : Nat} {xs : List Value} (tmp : Obj) (h : Own W base v l) (hr : W.ownsRow base' e 1 z k xs) (he : e ≠ 5) (hg : (W.alloc tmp).grownBy w1 z.ownBlock) : Own w1 base v l := by
  refine World.ownsRow.kept (h.alloc tmp) hg ?_
  rcases h.2 with ⟨rfl, _⟩ | ⟨g, cap, cur, rfl, _, hgb, _⟩
  · exact .inl rfl
  · refine .inr fun e' => ?_
    rcases hr.2 with ⟨rfl, _⟩ | ⟨g', cap', cur', rfl, _, hgb', _⟩
    · simp [Value.ownBlock] at e'
    · obtain rfl : g = g' := by simpa [Value.ownBlock] using e'
      rw [hgb] at hgb'
      simp at hgb'
      exact he hgb'.2.symm
set_option maxRecDepth 100000 in
set_option maxHeartbeats 2000000 in
theorem all_in (n : Nat) (hn : 5 ≤ n) (v : Value) (bs : List UInt8) (hbl : bs.length ≤ 1000000) (w : World) (hR : Reads w v bs) :
    CallsIn Fence.wide n Try.prog 32 #[v] w fun e W' => ∃ (vl : Value) (xs : List Fr), e = .returned (.tuple #[vl, .int .i64 (ksum (alF (bs.length + 1) bs) : Nat)]) ∧ xs.map Fr.p = alF (bs.length + 1) bs ∧ W'.ownsRow w.heap.size 25 1 vl xs.length (xs.map Fr.v) ∧ (∀ x ∈ xs, Own W' w.heap.size x.v x.D) ∧ Below w.heap.size w W' := by
  have h1 : 1 ≤ n := by omega
  obtain ⟨i0, hi, hz0, hz1, hz2⟩ := info_parts infoL
  obtain ⟨a, cap, rfl, _⟩ := hR.form
  refine callsIn_of_wp_marks Try.func32 rfl trivial ?_ rfl
  simp only [Try.ntmps32, List.size_toArray, List.length_cons, List.length_nil, Nat.reduceAdd, Nat.reduceSub, Array.replicate_succ, Array.replicate_zero, List.push_toArray, List.append_toArray, List.nil_append, List.cons_append]
  gi_wp2_with fail
  refine ⟨trivial, ?_⟩
  refine (frames_in _ _ bs _ ((hR.alloc _).alloc _)).mono ?_
  rintro e w' ⟨rfl, rfl⟩
  simp only [World.size_alloc]
  have bO := Boxed.new w 68 (.slice none 0 0)
  have bT := Boxed.new (w.alloc (.cells #[.slice none 0 0] 68)) 3 (.int .i64 0)
  have bN := Boxed.new ((w.alloc (.cells #[.slice none 0 0] 68)).alloc (.cells #[.int .i64 0] 3)) 25 (.slice a bs.length cap)
  rw [World.size_alloc] at bT
  rw [World.size_alloc, World.size_alloc] at bN
  have hB0 : Below w.heap.size w (((w.alloc (.cells #[.slice none 0 0] 68)).alloc (.cells #[.int .i64 0] 3)).alloc (.cells #[.slice a bs.length cap] 25)) := (((Below.refl _ w).alloc (Nat.le_refl _) _).alloc (by simp) _).alloc (by simp; omega) _
  have bO2 := (bO.alloc (.cells #[.int .i64 0] 3)).alloc (.cells #[.slice a bs.length cap] 25)
  have bT2 := bT.alloc (.cells #[.slice a bs.length cap] 25)
  gi_wp2_with fail
  refine wpIn_range_pre rfl h1 (gf := 89) (lb := #[.pointer (some ⟨w.heap.size + 1 + 1, 0, none⟩)]) rfl trivial (enters_of Try.func89 (by kernel_rfl) rfl) (encs := Fr.encs) (fun _ => rfl) (IAll w bs.length) (PreF w.heap.size bs.length) (fun xs => xs.map Fr.p = alF (bs.length + 1) bs) w.heap.size (by simp; omega)
    (fun l J W hK hn₀ hJ hY h0 => frames1_in (n - 1) (by omega) l (w.heap.size + 1 + 1) _ bs hbl w hR J W (hB0.trans hK.b) hJ hY (boxed_kc_C bN hK).cell h0)
    iall_kc (fun _ _ _ _ hp hk => ⟨hp.1.kcC hk, hp.2⟩) ⟨⟨_, bO2, World.ownsRow_nil _ _ _ _⟩, bT2, (fun _ h => by cases h), hB0, by simp [ksum]⟩
    (fun x => { tmps := #[.slice a bs.length cap, undef, .slice none 0 0, .int .i64 0, .pointer (some ⟨w.heap.size, 0, none⟩), .pointer (some ⟨w.heap.size + 1, 0, none⟩), x.v, .int .i64 (x.k : Int), .slice a bs.length cap, .func (.func 89) #[] #[.pointer (some ⟨w.heap.size + 1 + 1, 0, none⟩)], x.v, .int .i64 (x.k : Int), undef, undef, undef, undef, undef, undef, undef, undef, undef], defers := [] }) ?assign ?body ?done
  case assign =>
    intro l x W K hK
    dsimp only [Fr.encs]
    gi_wp2
    exact hK
  case body =>
    rintro l pre ⟨xv, D, k⟩ W ⟨⟨v', hv, hrow⟩, hT, hO, hB, hks⟩ ⟨hP1, hP2, hP3⟩ hnW
    dsimp only at hP1 hP2
    obtain ⟨av, cv, rfl, hDl⟩ := hP1.form
    have hc := hv.cell
    have hcT := hT.cell
    have hpl : pre.length ≤ 1000000 := by omega
    have hk0 : ksum ((pre ++ [(⟨.slice av D.length cv, D, k⟩ : Fr)]).map Fr.p) = ksum (pre.map Fr.p) + k := by rw [List.map_append]; exact ksum_snoc _ _
    gi_wp2_with (gi_at_builtin; refine wpListIn_append_own _ rfl _ _ 68 rfl w.heap.size 25 i0 (.slice none 0 0) 1 24 Try.underlying68 hi hz0 hz1 hz2 rfl (by decide) _ _ _ rfl (hrow.alloc _) ⟨W.heap.size, 0, none⟩ 1 1 [.slice av D.length cv] rfl rfl (cell_one_new _ _ _) (by simp [Value.oneCell']) (by unfold maxLen; omega) (by omega) (by have := hB.size; simp; omega) ?_; intro vq w1 hown' hgrow _; obtain ⟨g', cap', rfl⟩ := ownsRow_succ hown'; obtain ⟨hv1, hv2, hr2, hk2, hb2⟩ := hv.appended (by decide) hrow hB.size (Nat.le_refl _) hown' hgrow; have hc1 := hv1.cell; have hf1 := hv1.frozen; have hT1 : Boxed w1 (w.heap.size + 1) 3 _ := (hT.alloc _).kept hgrow (hT.not_row (by decide) hrow); have hT2 := hT1.kept (grownBy_setCell' w1 w.heap.size (.slice (some ⟨g', 0, none⟩) (pre.length + 1) cap')) (by simp); have hcT2 := hT2.cell; have hfT2 := hT2.frozen)
    have hv3 := hv2.kept (grownBy_setCell' _ (w.heap.size + 1) (.int .i64 ((ksum (pre.map Fr.p) : Int) + (k : Int)))) (by simp)
    have hT3 := hT2.set (.int .i64 ((ksum (pre.map Fr.p) : Int) + (k : Int)))
    have hr3 := hr2.kept (grownBy_setCell' _ (w.heap.size + 1) (.int .i64 ((ksum (pre.map Fr.p) : Int) + (k : Int)))) (.inr (hT2.not_row (by decide) hr2).symm)
    have hb3 := hb2.trans ((Below.refl w.heap.size _).setCell (p := ⟨w.heap.size + 1, 0, none⟩) (by simp) (.int .i64 ((ksum (pre.map Fr.p) : Int) + (k : Int))))
    have hO3 : ∀ (z : Value) (Z : List UInt8), Own W w.heap.size z Z → Own _ w.heap.size z Z := fun z Z hz => own_set_C (.int .i64 ((ksum (pre.map Fr.p) : Int) + (k : Int))) (own_set_C _ (own_grown_C _ hz hrow (by decide) hgrow) hv1 (by decide)) hT2 (by decide)
    refine ⟨hk2.trans (KeepsOthers.setCell _ _ _), hb3, ⟨_, hv3, by simpa using hr3⟩, ?_, ?_, hB.trans hb3, ?_⟩
    · rw [hk0]; exact hT3
    · intro z hz
      rcases List.mem_append.1 hz with hz | hz
      · exact hO3 _ _ (hO z hz)
      · simp at hz; subst hz; exact hO3 _ _ hP1
    · rw [hk0]; omega
  case done =>
    rintro D ys W hD hS ⟨⟨v', hv, hrow⟩, hT, hO, hB, hks⟩ hK
    have hc := hv.cell
    have hcT := hT.cell
    gi_wp2
    gi_region
    have hK2 : W.drew.heap[D]? = some (.deferred (some [])) := hK
    gi_wp2
    refine ⟨by simp, .inl ⟨_, _, rfl, run_takeDeferred hK2, ?_⟩⟩
    have hpk := Kc.put (n := w.heap.size) (.deferred none) hK2 rfl (by simp at hD; omega)
    have hdk : Kc w.heap.size W W.drew := ⟨(Below.refl _ _).drew, fun _ _ _ _ h => h⟩
    exact ⟨_, results_tmp2 rfl _ _ _, v', ys, rfl, hS, row_kc_C (row_kc_C hrow hdk) hpk, fun x hx => ((hO x hx).kcC hdk).kcC hpk, (hB.trans hdk.b).trans hpk.b⟩
end Go.Proofs.Ytlpjdfgknmfmnaa

/- What the fixed calls of layer 5's 'alive' come to; the reference's Copy. -/
namespace Go.Proofs.Ytlpjdfgknmfmnaa
open Go.RowKit Go.Joins

set_option maxRecDepth 100000 in
set_option maxHeartbeats 1000000 in
theorem copy_any (v : Value) (l : List UInt8) (hl : l.length ≤ 100000) (w : World) (hr : Reads w v l) :
    Calls Try.prog 9 #[v] w fun e w' => ∃ v', e = .returned v' ∧ Own w' w.heap.size v' l ∧ Below w.heap.size w w' := by
  go_enter Try.func9, Try.ntmps9
  go_wp2_with (at_builtin; refine wpList_app rfl _ _ rfl w.heap.size _ _ [] l l rfl rfl rfl (Own.nil _ _) hr (by simp; omega) (Nat.le_refl _) ?_)
  intro v2 w2 HO2 hb2
  clear hr
  go_wp2_with fail
  go_ret
  exact ⟨_, rfl, HO2, hb2.out⟩
end Go.Proofs.Ytlpjdfgknmfmnaa

/- Of frames one behind the other; crc.All. -/
namespace Go.Proofs.Ytlpjdfgknmfmnaa
open Go.RowKit

theorem vle_four' (n : Nat) (h : n < 4294967296) : vle (four n) = n := by
  simp only [four, vle, UInt8.toNat_ofNat']
  omega
theorem nx_frm (l m : List UInt8) (hl : l.length ≤ 65535) : nxF (frm l ++ m) = (l, l.length + 8, 0) := by
  have e1 : frm l ++ m = four l.length ++ (l ++ (four (mor 0 (four l.length ++ l)) ++ m)) := by unfold frm; simp [List.append_assoc]
  have e4 : (frm l ++ m).take 4 = four l.length := by rw [e1]; rfl
  have e5 : (frm l ++ m).drop 4 = l ++ (four (mor 0 (four l.length ++ l)) ++ m) := by rw [e1]; rfl
  have e6 : (frm l ++ m).take (4 + l.length) = four l.length ++ l := by
    have : (frm l ++ m) = (four l.length ++ l) ++ (four (mor 0 (four l.length ++ l)) ++ m) := by rw [e1]; simp [List.append_assoc]
    rw [this, List.take_append_of_le_length (by simp [four_len]), List.take_of_length_le (by simp [four_len])]
  have e7 : ((frm l ++ m).drop (4 + l.length)).take 4 = four (mor 0 (four l.length ++ l)) := by
    rw [← List.drop_drop, e5, List.drop_left]; rfl
  have hlen : (frm l ++ m).length = l.length + 8 + m.length := by rw [List.length_append, frm_len]
  unfold nxF
  rw [e4, vle_four' _ (by omega), if_neg (by omega), if_neg (by omega), if_neg (by omega), e7, vle_four' _ (mor_lt _ _), e6, if_neg (by simp), e5, List.take_left]
theorem alF_frm (k : Nat) (l m : List UInt8) (hl : l.length ≤ 65535) : alF (k + 1) (frm l ++ m) = (l, l.length + 8) :: alF k m := by
  rw [alF, nx_frm l m hl, if_pos rfl]
  show _ :: alF k ((frm l ++ m).drop (l.length + 8)) = _
  rw [← frm_len, List.drop_left]
theorem all_any (v : Value) (bs : List UInt8) (hbl : bs.length ≤ 1000000) (w : World) (hR : Reads w v bs) :
    Calls Try.prog 32 #[v] w fun e W' => ∃ (vl : Value) (xs : List Fr), e = .returned (.tuple #[vl, .int .i64 (ksum (alF (bs.length + 1) bs) : Nat)]) ∧ xs.map Fr.p = alF (bs.length + 1) bs ∧ W'.ownsRow w.heap.size 25 1 vl xs.length (xs.map Fr.v) ∧ (∀ x ∈ xs, Own W' w.heap.size x.v x.D) ∧ Below w.heap.size w W' :=
  callsIn_wide.1 (all_in 5 (by decide) v bs hbl w hR)
/-- What a list of slices holds. -/
theorem row_at {w : World} {base : Nat} {vl : Value} {xs : List Value} (h : w.ownsRow base 25 1 vl xs.length xs) (h0 : 0 < xs.length) :
    ∃ g cap, vl = .slice (some ⟨g, 0, none⟩) xs.length cap ∧ xs.length ≤ cap ∧ g < w.heap.size ∧ ∀ j (hj : j < xs.length), w.cell? ⟨g, j, none⟩ = some xs[j] := by
  have hlt := World.ownsRow.lt h
  rcases h.2 with ⟨_, h1⟩ | ⟨g, cap, cur, hv, hg, hw, hc, hm, _⟩
  · omega
  · subst hv
    refine ⟨g, cap, rfl, hc, (hlt g rfl).2, fun j hj => ?_⟩
    rw [World.ownsRow.cellAt h j (by simpa using hj)]
    simp [hj]
end Go.Proofs.Ytlpjdfgknmfmnaa

/- Frames one behind the other, cut anywhere: the pure half of F6, for seats that have no list of slices. -/
namespace Go.Proofs.Ytlpjdfgknmfmnaa
open Go.RowKit

def cat : List (List UInt8) → List UInt8
  | [] => []
  | l :: L => frm l ++ cat L
def en (L : List (List UInt8)) (k : Nat) : Nat := (cat (L.take k)).length
def pr (l : List UInt8) : List UInt8 × Nat := (l, l.length + 8)
theorem en_zero (L : List (List UInt8)) : en L 0 = 0 := rfl
theorem en_cons (l : List UInt8) (L : List (List UInt8)) (k : Nat) : en (l :: L) (k + 1) = l.length + 8 + en L k := by
  unfold en; rw [List.take_succ_cons, cat, List.length_append, frm_len]
theorem cat_append (A B : List (List UInt8)) : cat (A ++ B) = cat A ++ cat B := by
  induction A with
  | nil => rfl
  | cons a A ih => rw [List.cons_append, cat, cat, ih, List.append_assoc]
theorem cat_snoc (L : List (List UInt8)) (k : Nat) (h : k < L.length) : cat (L.take (k + 1)) = cat (L.take k) ++ frm L[k] := by
  rw [List.take_add_one, List.getElem?_eq_getElem h, cat_append]
  simp [cat]
theorem en_snoc (L : List (List UInt8)) (k : Nat) (h : k < L.length) : en L (k + 1) = en L k + (L[k].length + 8) := by
  unfold en; rw [cat_snoc L k h, List.length_append, frm_len]
theorem en_ge (L : List (List UInt8)) : ∀ k, k ≤ L.length → 8 * k ≤ en L k := by
  intro k
  induction k with
  | zero => intro _; simp [en_zero]
  | succ k ih => intro h; rw [en_snoc L k (by omega)]; have := ih (by omega); omega
theorem nx_cut (l : List UInt8) (hl : l.length ≤ 65535) (c : Nat) (hc : c < l.length + 8) : (nxF ((frm l).take c)).2.2 ≠ 0 := by
  have hlen : ((frm l).take c).length = c := by rw [List.length_take, frm_len]; omega
  unfold nxF
  by_cases h4 : c < 4
  · rw [if_pos (by omega)]; simp
  · have e4 : ((frm l).take c).take 4 = four l.length := by
      rw [List.take_take, Nat.min_eq_left (by omega)]; unfold frm; rw [List.append_assoc]; rfl
    rw [e4, vle_four' _ (by omega), if_neg (by omega), if_neg (by omega), if_pos (by omega)]; simp
theorem alF_stop (f : Nat) (l : List UInt8) (h : (nxF l).2.2 ≠ 0) : alF f l = [] := by
  cases f with
  | zero => rfl
  | succ f => rw [alF, if_neg h]
theorem al_cut : ∀ (k : Nat) (L : List (List UInt8)) (c f : Nat), k ≤ L.length → (∀ l ∈ L, l.length ≤ 65535) → en L k ≤ c → (k = L.length ∨ c < en L (k + 1)) → k ≤ f → alF f ((cat L).take c) = (L.take k).map pr
  | 0, [], c, f, _, _, _, _, _ => by
    rw [cat, List.take_nil]; exact alF_stop _ _ (by simp [nxF])
  | 0, l :: L, c, f, _, hl, _, h, _ => by
    have hc : c < l.length + 8 := by
      rcases h with h | h
      · simp at h
      · rw [en_cons, en_zero] at h; omega
    rw [cat, List.take_append_of_le_length (by rw [frm_len]; omega)]
    exact alF_stop _ _ (nx_cut l (hl l (List.mem_cons_self ..)) c hc)
  | k + 1, [], _, _, h, _, _, _, _ => by simp at h
  | k + 1, l :: L, c, f, h1, hl, h2, h3, h4 => by
    obtain ⟨f, rfl⟩ : ∃ f', f = f' + 1 := ⟨f - 1, by omega⟩
    rw [en_cons] at h2
    rw [cat, List.take_append, List.take_of_length_le (by rw [frm_len]; omega), alF_frm f l _ (hl l (List.mem_cons_self ..)), frm_len, List.take_succ_cons, List.map_cons,
      al_cut k L (c - (l.length + 8)) f (by simpa using h1) (fun x hx => hl x (List.mem_cons_of_mem _ hx)) (by omega) (by
        rcases h3 with h3 | h3
        · exact .inl (by simpa using h3)
        · rw [en_cons] at h3; exact .inr (by omega)) (by omega)]
    rfl
end Go.Proofs.Ytlpjdfgknmfmnaa
