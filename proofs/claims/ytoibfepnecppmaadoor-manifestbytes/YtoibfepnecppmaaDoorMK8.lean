/- SF9 MFw MFb MFc, joined. -/
import Derived.Test.YtoibfepnecppmaaDoorMK5
import Derived.Test.YtoibfepnecppmaaDoorMK7
/- A file system: Append, Read. -/
namespace Go.Proofs.YtoibfepnecppmaaDoor
open Go.RowKit Go.Maps

theorem SfWf.plan {s : SfS} (q : SfWf s) : SfWf (sfPlan s).2 := by
  unfold sfPlan
  split
  · exact q
  · split
    · exact ⟨q.r1, q.r2, by show _ ≤ s.left - 1; omega, by show s.left - 1 < _; have := q.l2; omega, q.di, q.oi, q.pi, q.ap, q.ln, q.sy⟩
    · exact ⟨q.r1, q.r2, q.l1, q.l2, q.di, q.oi, q.pi, q.ap, q.ln, q.sy⟩
theorem Reads.keepB {w w' : World} {v : Value} {l : List UInt8} (h : Reads w v l) (hk : ∀ k, v.ownBlock = some k → k < w.heap.size → w'.heap[k]? = w.heap[k]?) (hs : w.heap.size ≤ w'.heap.size) : Reads w' v l := by
  rcases h with h | ⟨b, off, cap, rfl, h2, h3, h4, h5, h6⟩
  · exact .inl h
  · exact .inr ⟨b, off, cap, rfl, h2, h3, h4, by omega, fun j hj => (World.cell?_of_block (hk b rfl h5)).trans (h6 j hj)⟩
theorem wpList_app_runG {w w' : World} {ops : Array Oper} {rest : List Oper} {o : Oper} {a : Act} {Q : Exit → Act → World → Prop} (hgd : o.guard = none) (s x : Operand) (t ty : TypeId) (ho : o.op = .call { callee := .builtin .append, args := #[s, x], argTypes := #[t, t] }) (hty : o.type = ty) (v vx v' : Value) (hs : a.eval s = v) (hx : a.eval x = vx)
    (hrun : (Builtin.append_ #[t, t] ty #[v, vx]).run Tryd.prog w = .ok v' w') (h : wpList Tryd.prog ops Q rest (a.put o.dst v') w') : wpList Tryd.prog ops Q (o :: rest) a w :=
  wpList_plain hgd fun _ hK => wp_app_runG s x t ty ho hty v vx v' hs hx hrun (hK _ _ h)
end Go.Proofs.YtoibfepnecppmaaDoor

/- manifest: a box of a run; what a struct's store leaves. -/
namespace Go.Proofs.YtoibfepnecppmaaDoor
open Go.RowKit

theorem stW_nw {w W : World} {b0 : Array Value} {T : TypeId} {vs : List Value} (h : StW (w.alloc (.cells b0 T)) W w.heap.size 0 b0 T vs) (hb : b0.size = vs.length) : Below w.heap.size w W ∧ W.heap[w.heap.size]? = some (.cells vs.toArray T) ∧ w.heap.size < W.heap.size := by
  have hbl : Below w.heap.size w W := ((Below.refl _ _).alloc (Nat.le_refl _) _).trans (h.b _ (Nat.le_refl _))
  obtain ⟨cur, h1, h2, _, h4⟩ := h.c
  have e : cur = vs.toArray := by
    apply Array.ext (by simp; omega)
    intro i hi hj
    have := h4 i (by simpa using hj)
    rw [Nat.zero_add, Array.getElem?_eq_getElem hi] at this
    simpa using this
  rw [e] at h1
  exact ⟨hbl, h1, (Array.getElem?_eq_some_iff.1 h1).1⟩
/-- A run's three cells. -/
def r3L (r : Ru) : List Value := [.int .i64 r.f, .int .i64 r.l, .int .i64 r.c]
theorem r3L_len (r : Ru) : (r3L r).length = 3 := rfl
theorem three {w : World} {b : Nat} {T : TypeId} {r : Ru} (h : w.heap[b]? = some (.cells (r3L r).toArray T)) : w.cell? ⟨b, 0, none⟩ = some (.int .i64 r.f) ∧ w.cell? ⟨b, 1, none⟩ = some (.int .i64 r.l) ∧ w.cell? ⟨b, 2, none⟩ = some (.int .i64 r.c) := by
  refine ⟨?_, ?_, ?_⟩ <;> simp [World.cell?, h, r3L]
theorem len3 : ∀ l : List Ru, (l.flatMap Ru.n).length = 3 * l.length
  | [] => rfl
  | a :: l => by rw [List.flatMap_cons, List.length_append, len3 l, List.length_cons]; show 3 + _ = _; omega
end Go.Proofs.YtoibfepnecppmaaDoor

/- manifest: numbers. -/
namespace Go.Proofs.YtoibfepnecppmaaDoor
open Go.RowKit

set_option maxRecDepth 100000 in
set_option maxHeartbeats 4000000 in
theorem numbers13_any (dv av : Value) (x : Ed) (w : World) (h : EdR w dv av x) (hd : x.dr.length ≤ 100000) (ha : x.ad.length ≤ 100000) :
    Calls Tryd.prog 14 #[.agg #[dv, av, .int .i64 x.lo, .int .i64 x.ne, .int .i64 x.ma]] w fun e w' => ∃ v, e = .returned v ∧ JO w' v (nmE x) ∧ Below w.heap.size w w' := by
  obtain ⟨da, dc, rfl, _⟩ := h.d.form
  obtain ⟨aa, ac, rfl, _⟩ := h.a.form
  have HE : Hid (EdR w (.slice da x.dr.length dc) (.slice aa x.ad.length ac) x) := h
  have HNm : Hid (nmE x = ((((x.dr.length : Int) :: x.dr) ++ [(x.ad.length : Int)]) ++ x.ad.flatMap Ru.n) ++ [x.lo, x.ne, x.ma]) := by unfold Hid nmE; simp
  obtain ⟨dr, ad, lo, ne, ma⟩ := x
  simp only at *
  have HX0 : Hid ((w.alloc (.cells #[.slice da dr.length dc, .slice aa ad.length ac, .int .i64 lo, .int .i64 ne, .int .i64 ma] 25)).heap[w.heap.size]? = some (.cells #[.slice da dr.length dc, .slice aa ad.length ac, .int .i64 lo, .int .i64 ne, .int .i64 ma] 25)) := heap_alloc_new _ _
  have HB0 : Hid (Below w.heap.size w (w.alloc (.cells #[.slice da dr.length dc, .slice aa ad.length ac, .int .i64 lo, .int .i64 ne, .int .i64 ma] 25))) := (Below.refl _ _).alloc (Nat.le_refl _) _
  have HJ1 : Hid (JG (w.heap.size + 1) (w.alloc (.cells #[.slice da dr.length dc, .slice aa ad.length ac, .int .i64 lo, .int .i64 ne, .int .i64 ma] 25)) ((w.alloc (.cells #[.slice da dr.length dc, .slice aa ad.length ac, .int .i64 lo, .int .i64 ne, .int .i64 ma] 25)).alloc (.cells #[.int .i64 (dr.length : Int)] 2)) (.slice (some ⟨w.heap.size + 1, 0, none⟩) 1 1) [(dr.length : Int)]) := by
    have := jg_one (w.alloc (.cells #[.slice da dr.length dc, .slice aa ad.length ac, .int .i64 lo, .int .i64 ne, .int .i64 ma] 25)) (dr.length : Int)
    simpa [Hid] using this
  obtain ⟨c0, c1, c2, c3, c4⟩ := five HX0.out
  clear h c1 c2 c3 c4
  go_enter Tryd.func14, Tryd.ntmps14
  go_wp2_with fail
  clear c0
  have hz0 : (w.alloc (.cells #[.slice da dr.length dc, .slice aa ad.length ac, .int .i64 lo, .int .i64 ne, .int .i64 ma] 25)).heap.size = w.heap.size + 1 := by simp
  have hz1 : ((w.alloc (.cells #[.slice da dr.length dc, .slice aa ad.length ac, .int .i64 lo, .int .i64 ne, .int .i64 ma] 25)).alloc (.cells #[.int .i64 (dr.length : Int)] 2)).heap.size = w.heap.size + 2 := by simp
  have HZ0 : Hid (_ = _) := hz0
  have HZ1 : Hid (_ = _) := hz1
  clear hz0 hz1
  generalize w.alloc (.cells #[.slice da dr.length dc, .slice aa ad.length ac, .int .i64 lo, .int .i64 ne, .int .i64 ma] 25) = w0 at *
  go_loopw [3, 15] (fun o i wr => ∃ j : Nat, i = .int .i64 (j : Int) ∧ j ≤ dr.length ∧ w.heap.size + 1 ≤ wr.heap.size ∧ Hid (JG (w.heap.size + 1) w0 wr o ((dr.length : Int) :: dr.take j))) (fun _ i _ => dr.length - (intOf i).toNat)
  case atStart => exact ⟨0, rfl, by omega, by rw [HZ1.out]; omega, by unfold Hid; simpa using HJ1.out⟩
  case round =>
    obtain ⟨j, rfl, hj, hsz, HJ⟩ := hrel
    have HBw : Hid (Below w.heap.size w wr) := HB0.out.trans (HJ.out.b.mono (by omega))
    by_cases hlt : j < dr.length
    · have hlt' : (j : Int) < (dr.length : Int) := by omega
      obtain ⟨oa, oc, hov, -⟩ := GOwn.form HJ.out.o
      have hln : ((dr.length : Int) :: dr.take j).length = j + 1 := by simp; omega
      rw [hln] at hov
      subst hov
      obtain ⟨y, Hy⟩ := hid_ex dr[j]
      obtain ⟨b, off, rfl, hbw, c0⟩ := (HE.out.d.below HBw.out).at hlt Hy.out
      obtain ⟨v3, w3, hrun, hj3, hs3⟩ := HJ.out.app hsz 53 [y] (by rw [hln]; simp; omega)
      have HJ3 : Hid (JG (w.heap.size + 1) w0 w3 v3 ((dr.length : Int) :: dr.take (j + 1))) := by
        unfold Hid
        rw [snocI hlt Hy.out]
        exact hj3
      simp only [ji, List.map_cons, List.map_nil, List.length_singleton] at hrun
      clear hj3
      go_wp2_with (at_builtin; refine wpList_app_runG rfl _ _ 53 53 rfl rfl _ _ _ rfl rfl hrun ?_)
      go_roundw
      case rel => exact ⟨j + 1, by go_num, by omega, hs3, HJ3⟩
      case measure => simp [intOf]; omega
    · have hlt' : ¬ (j : Int) < (dr.length : Int) := by omega
      have HJe : Hid (JG (w.heap.size + 1) w0 wr u3 ((dr.length : Int) :: dr)) := by
        have := HJ.out
        rwa [List.take_of_length_le (by omega)] at this
      obtain ⟨oa, oc, hov, -⟩ := GOwn.form HJe.out.o
      rw [List.length_cons] at hov
      subst hov
      obtain ⟨v3, w3, hrun, hj3, hs3⟩ := HJe.out.app hsz 53 [(ad.length : Int)] (by simp; omega)
      have HJ3 : Hid (JG (w.heap.size + 1) w0 w3 v3 (((dr.length : Int) :: dr) ++ [(ad.length : Int)])) := hj3
      simp only [ji, List.map_cons, List.map_nil, List.length_singleton] at hrun
      obtain ⟨_, c1, _, _, _⟩ := five ((HJe.out.b.block w.heap.size (by omega)).trans HX0.out)
      obtain ⟨_, d1, _, _, _⟩ := five ((HJ3.out.b.block w.heap.size (by omega)).trans HX0.out)
      clear hj3 HJ HJe HBw
      go_wp2_with (at_builtin; refine wpList_app_runG rfl _ _ 53 53 rfl rfl _ _ _ rfl rfl hrun ?_)
      clear c1 d1 hrun hlt hlt' hj
      go_loopw [3, 33] (fun o i wr => ∃ j : Nat, i = .int .i64 (j : Int) ∧ j ≤ ad.length ∧ w.heap.size + 1 ≤ wr.heap.size ∧ Hid (JG (w.heap.size + 1) w0 wr o ((((dr.length : Int) :: dr) ++ [(ad.length : Int)]) ++ (ad.take j).flatMap Ru.n))) (fun _ i _ => ad.length - (intOf i).toNat)
      case atStart => exact ⟨0, rfl, by omega, hs3, by unfold Hid; simpa using HJ3.out⟩
      case round =>
        obtain ⟨j, rfl, hj, hsz, HJ⟩ := hrel
        have HBw : Hid (Below w.heap.size w wr) := HB0.out.trans (HJ.out.b.mono (by omega))
        have hfl : ((ad.take j).flatMap Ru.n).length = 3 * j := by rw [len3]; simp; omega
        have HLn : Hid (((((dr.length : Int) :: dr) ++ [(ad.length : Int)]) ++ (ad.take j).flatMap Ru.n).length = dr.length + 1 + 1 + 3 * j) := by unfold Hid; rw [List.length_append, hfl]; simp
        clear hfl
        obtain ⟨oa, oc, hov, -⟩ := GOwn.form HJ.out.o
        rw [HLn.out] at hov
        subst hov
        by_cases hlt : j < ad.length
        · have hlt' : (j : Int) < (ad.length : Int) := by omega
          obtain ⟨r, Hr⟩ := hid_ex ad[j]
          obtain ⟨b, off, rfl, hbw, c0, c1, c2⟩ := (HE.out.a.below HBw.out).at hlt Hr.out
          go_wp2_with (refine stop_store 52 _ _ rfl ?_)
          refine Stop.of ?_
          refine wpList_storeN rfl _ _ _ rfl wr.heap.size 0 (r3L r) rfl rfl _ _ (heap_alloc_new _ _) (by rw [r3L_len]; simp) (by kernel_rfl) (by kernel_rfl) ?_
          intro W hW
          obtain ⟨hbW, hxW, hlW⟩ := stW_nw hW (by simp [r3L_len])
          have HJW : Hid (JG (w.heap.size + 1) w0 W (.slice oa (dr.length + 1 + 1 + 3 * j) oc) ((((dr.length : Int) :: dr) ++ [(ad.length : Int)]) ++ (ad.take j).flatMap Ru.n)) := HJ.out.below hbW hsz
          obtain ⟨d0, d1, d2⟩ := three hxW
          obtain ⟨v3, w3, hrun, hj3, hs3⟩ := HJW.out.app (by omega) 53 [r.f, r.l, r.c] (by rw [HLn.out]; simp; omega)
          have HJ3 : Hid (JG (w.heap.size + 1) w0 w3 v3 ((((dr.length : Int) :: dr) ++ [(ad.length : Int)]) ++ (ad.take (j + 1)).flatMap Ru.n)) := by
            unfold Hid
            rw [snocR hlt Hr.out, ← List.append_assoc]
            exact hj3
          simp only [ji, List.map_cons, List.map_nil, List.length_cons, List.length_nil, Nat.reduceAdd] at hrun
          clear hj3 hW hbW hxW c0 c1 c2 HJ HJW
          go_wp2_with (at_builtin; refine wpList_app_runG rfl _ _ 53 53 rfl rfl _ _ _ rfl rfl hrun ?_)
          go_roundw
          case rel => exact ⟨j + 1, by go_num, by omega, hs3, HJ3⟩
          case measure => simp [intOf]; omega
        · have hlt' : ¬ (j : Int) < (ad.length : Int) := by omega
          obtain ⟨v3, w3, hrun, hj3, hs3⟩ := HJ.out.app hsz 53 [lo, ne, ma] (by rw [HLn.out]; simp; omega)
          obtain ⟨_, _, c2, c3, c4⟩ := five ((HJ.out.b.block w.heap.size (by omega)).trans HX0.out)
          have HJ3 : Hid (JG (w.heap.size + 1) w0 w3 v3 (nmE ⟨dr, ad, lo, ne, ma⟩)) := by
            unfold Hid
            rw [HNm.out]
            rw [List.take_of_length_le (by omega)] at hj3
            exact hj3
          simp only [ji, List.map_cons, List.map_nil, List.length_cons, List.length_nil, Nat.reduceAdd] at hrun
          clear hj3 HJ
          go_wp2_with (at_builtin; refine wpList_app_runG rfl _ _ 53 53 rfl rfl _ _ _ rfl rfl hrun ?_)
          go_ret
          exact ⟨_, rfl, HJ3.out.o, HB0.out.trans (HJ3.out.b.mono (by omega))⟩
end Go.Proofs.YtoibfepnecppmaaDoor

/- manifest: Write. -/
namespace Go.Proofs.YtoibfepnecppmaaDoor
open Go.RowKit

/-- What Write answers: its error and its bytes. -/
def edE {α : Type} (o : Option α) : Int := if o.isSome then 0 else 100
def smI (x : Ed) : Prop := ∀ v ∈ nmE x, v ≤ 9223372036854775807
theorem nmE_len (x : Ed) : (nmE x).length = 5 + x.dr.length + 3 * x.ad.length := by
  unfold nmE
  simp only [List.length_cons, List.length_append, len3, List.length_nil]; omega
set_option maxRecDepth 100000 in
set_option maxHeartbeats 2000000 in
theorem write13_any (dv av : Value) (x : Ed) (w : World) (h : EdR w dv av x) (hx : smI x) :
    Calls Tryd.prog 5 #[.agg #[dv, av, .int .i64 x.lo, .int .i64 x.ne, .int .i64 x.ma]] w fun e w' => ∃ v, e = .returned (.tuple #[v, .int .i64 (edE (edW x))]) ∧ Own w' w.heap.size v ((edW x).getD []) ∧ Below w.heap.size w w' := by
  obtain ⟨da, dc, rfl, hm1⟩ := h.d.form
  obtain ⟨aa, ac, rfl, hm2⟩ := h.a.form
  unfold maxLen at hm1 hm2
  have HE : Hid (EdR w (.slice da x.dr.length dc) (.slice aa x.ad.length ac) x) := h
  have HSm : Hid (smI x) := hx
  have HW : Hid (edW x = if 64 < x.dr.length ∨ 64 < x.ad.length then none else if okN (nmE x) = true then some (shB (nmE x)) else none) := rfl
  have hX0 : (w.alloc (.cells #[.slice da x.dr.length dc, .slice aa x.ad.length ac, .int .i64 x.lo, .int .i64 x.ne, .int .i64 x.ma] 25)).heap[w.heap.size]? = some (.cells #[.slice da x.dr.length dc, .slice aa x.ad.length ac, .int .i64 x.lo, .int .i64 x.ne, .int .i64 x.ma] 25) := heap_alloc_new _ _
  have HB0 : Hid (Below w.heap.size w (w.alloc (.cells #[.slice da x.dr.length dc, .slice aa x.ad.length ac, .int .i64 x.lo, .int .i64 x.ne, .int .i64 x.ma] 25))) := (Below.refl _ _).alloc (Nat.le_refl _) _
  obtain ⟨c0, c1, c2, c3, c4⟩ := five hX0
  clear h hx hX0
  by_cases h1 : 64 < x.dr.length
  · have HN : Hid (edW x = none) := by unfold Hid; rw [HW.out, if_pos (.inl h1)]
    have h1' : (64 : Int) < (x.dr.length : Int) := by omega
    clear HW
    go_enter Tryd.func5, Tryd.ntmps5
    go_wp2_with fail
    go_ret2
    rw [HN.out]
    exact ⟨_, rfl, Own.nil _ _, HB0.out⟩
  · have h1' : ¬ (64 : Int) < (x.dr.length : Int) := by omega
    by_cases h2 : 64 < x.ad.length
    · have HN : Hid (edW x = none) := by unfold Hid; rw [HW.out, if_pos (.inr h2)]
      have h2' : (64 : Int) < (x.ad.length : Int) := by omega
      clear HW
      go_enter Tryd.func5, Tryd.ntmps5
      go_wp2_with fail
      go_ret2
      rw [HN.out]
      exact ⟨_, rfl, Own.nil _ _, HB0.out⟩
    · have h2' : ¬ (64 : Int) < (x.ad.length : Int) := by omega
      have HW2 : Hid (edW x = if okN (nmE x) = true then some (shB (nmE x)) else none) := by unfold Hid; rw [HW.out, if_neg (by omega)]
      have HC : Hid (Calls Tryd.prog 14 #[.agg #[.slice da x.dr.length dc, .slice aa x.ad.length ac, .int .i64 x.lo, .int .i64 x.ne, .int .i64 x.ma]] (w.alloc (.cells #[.slice da x.dr.length dc, .slice aa x.ad.length ac, .int .i64 x.lo, .int .i64 x.ne, .int .i64 x.ma] 25)) fun e w' => ∃ v, e = .returned v ∧ JO w' v (nmE x) ∧ Below (w.alloc (.cells #[.slice da x.dr.length dc, .slice aa x.ad.length ac, .int .i64 x.lo, .int .i64 x.ne, .int .i64 x.ma] 25)).heap.size (w.alloc (.cells #[.slice da x.dr.length dc, .slice aa x.ad.length ac, .int .i64 x.lo, .int .i64 x.ne, .int .i64 x.ma] 25)) w') := numbers13_any _ _ x _ (HE.out.below HB0.out) (by omega) (by omega)
      have HL : Hid ((nmE x).length ≤ 100000 ∧ 0 < (nmE x).length) := by unfold Hid; rw [nmE_len]; omega
      clear HW
      go_enter Tryd.func5, Tryd.ntmps5
      go_wp2_with fail
      refine HC.out.mono ?_
      rintro e w1 ⟨v1, rfl, hj1, hb1⟩
      have HJ1 : Hid (JR w1 v1 (nmE x)) := hj1.jr
      have HB1 : Hid (Below w.heap.size w w1) := HB0.out.trans (hb1.mono HB0.out.size)
      clear HC hj1 hb1 c0 c1 c2 c3 c4
      go_wp2_with fail
      refine (min13_any v1 (nmE x) HL.out.2 w1 HJ1.out).mono ?_
      rintro e w2 ⟨m, rfl, hm, hw2⟩
      subst hw2
      by_cases hm0 : 0 ≤ m
      · have hm1 : ¬ m < 0 := by omega
        have hk : okN (nmE x) = true := by rw [← hm]; simpa using hm0
        have HK : Hid (okN (nmE x) = true) := hk
        clear hk hm
        go_wp2_with fail
        refine (short13_any v1 (nmE x) HL.out.1 (fun y hy => ⟨by have := List.all_eq_true.1 HK.out y hy; simpa using this, HSm.out y hy⟩) _ HJ1.out).mono ?_
        rintro e w3 ⟨v3, rfl, ho3, hb3⟩
        have HO3 : Hid (Own w3 w2.heap.size v3 (shB (nmE x))) := ho3
        have HB3 : Hid (Below w2.heap.size w2 w3) := hb3
        clear ho3 hb3
        go_wp2_with fail
        go_ret2
        rw [HW2.out, if_pos HK.out]
        exact ⟨_, rfl, HO3.out.mono HB1.out.size, HB1.out.trans (HB3.out.mono HB1.out.size)⟩
      · have hm1 : m < 0 := by omega
        have hk : okN (nmE x) = false := by rw [← hm]; simpa using hm1
        have HK : Hid (okN (nmE x) = false) := hk
        clear hk hm
        go_wp2_with fail
        go_ret2
        rw [HW2.out, HK.out]
        exact ⟨_, rfl, Own.nil _ _, HB1.out⟩
end Go.Proofs.YtoibfepnecppmaaDoor
