/- MFb MFc MFd, joined. -/
import Derived.Test.YtilbffgpniomcaaGreatDoorQQ6
/- manifest: numbers. -/
namespace Go.Proofs.YtilbffgpniomcaaGreatDoor
open Go.RowKit

set_option maxRecDepth 100000 in
set_option maxHeartbeats 4000000 in
theorem numbers13_any (dv av : Value) (x : Ed) (w : World) (h : EdR w dv av x) (hd : x.dr.length ≤ 100000) (ha : x.ad.length ≤ 100000) :
    Calls Tryz.prog 65 #[.agg #[dv, av, .int .i64 x.lo, .int .i64 x.ne, .int .i64 x.ma]] w fun e w' => ∃ v, e = .returned v ∧ JO w' v (nmE x) ∧ Below w.heap.size w w' := by
  obtain ⟨da, dc, rfl, _⟩ := h.d.form
  obtain ⟨aa, ac, rfl, _⟩ := h.a.form
  have HE : Hid (EdR w (.slice da x.dr.length dc) (.slice aa x.ad.length ac) x) := h
  have HNm : Hid (nmE x = ((((x.dr.length : Int) :: x.dr) ++ [(x.ad.length : Int)]) ++ x.ad.flatMap Ru.n) ++ [x.lo, x.ne, x.ma]) := by unfold Hid nmE; simp
  obtain ⟨dr, ad, lo, ne, ma⟩ := x
  simp only at *
  have HX0 : Hid ((w.alloc (.cells #[.slice da dr.length dc, .slice aa ad.length ac, .int .i64 lo, .int .i64 ne, .int .i64 ma] 52)).heap[w.heap.size]? = some (.cells #[.slice da dr.length dc, .slice aa ad.length ac, .int .i64 lo, .int .i64 ne, .int .i64 ma] 52)) := heap_alloc_new _ _
  have HB0 : Hid (Below w.heap.size w (w.alloc (.cells #[.slice da dr.length dc, .slice aa ad.length ac, .int .i64 lo, .int .i64 ne, .int .i64 ma] 52))) := (Below.refl _ _).alloc (Nat.le_refl _) _
  have HJ1 : Hid (JG (w.heap.size + 1) (w.alloc (.cells #[.slice da dr.length dc, .slice aa ad.length ac, .int .i64 lo, .int .i64 ne, .int .i64 ma] 52)) ((w.alloc (.cells #[.slice da dr.length dc, .slice aa ad.length ac, .int .i64 lo, .int .i64 ne, .int .i64 ma] 52)).alloc (.cells #[.int .i64 (dr.length : Int)] 2)) (.slice (some ⟨w.heap.size + 1, 0, none⟩) 1 1) [(dr.length : Int)]) := by
    have := jg_one (w.alloc (.cells #[.slice da dr.length dc, .slice aa ad.length ac, .int .i64 lo, .int .i64 ne, .int .i64 ma] 52)) (dr.length : Int)
    simpa [Hid] using this
  obtain ⟨c0, c1, c2, c3, c4⟩ := five HX0.out
  clear h c1 c2 c3 c4
  go_enter Tryz.func65, Tryz.ntmps65
  go_wp2_with fail
  clear c0
  have hz0 : (w.alloc (.cells #[.slice da dr.length dc, .slice aa ad.length ac, .int .i64 lo, .int .i64 ne, .int .i64 ma] 52)).heap.size = w.heap.size + 1 := by simp
  have hz1 : ((w.alloc (.cells #[.slice da dr.length dc, .slice aa ad.length ac, .int .i64 lo, .int .i64 ne, .int .i64 ma] 52)).alloc (.cells #[.int .i64 (dr.length : Int)] 2)).heap.size = w.heap.size + 2 := by simp
  have HZ0 : Hid (_ = _) := hz0
  have HZ1 : Hid (_ = _) := hz1
  clear hz0 hz1
  generalize w.alloc (.cells #[.slice da dr.length dc, .slice aa ad.length ac, .int .i64 lo, .int .i64 ne, .int .i64 ma] 52) = w0 at *
  go_loopw [3, 15] (fun o i wr => ∃ j : Nat, i = .int .i64 (j : Int) ∧ j ≤ dr.length ∧ w.heap.size + 1 ≤ wr.heap.size ∧ Hid (JG (w.heap.size + 1) w0 wr o ((dr.length : Int) :: dr.take j))) (fun _ i _ => dr.length - (intOf i).toNat)
  case atStart => exact ⟨0, rfl, by omega, by rw [HZ1.out]; omega, by unfold Hid; simpa using HJ1.out⟩
  case round =>
    obtain ⟨j, rfl, hj, hsz, HJ⟩ := hrel
    have HBw : Hid (Below w.heap.size w wr) := HB0.out.trans (HJ.out.b.mono (by omega))
    by_cases hlt : j < dr.length
    · have hlt' : (j : Int) < (dr.length : Int) := by omega
      obtain ⟨oa, oc, hov, -⟩ := GOwn.form HJ.out.o
      have hln : ((dr.length : Int) :: dr.take j).length = j + 1 := by simp; omega
      rw [hln] at hov
      subst hov
      obtain ⟨y, Hy⟩ := hid_ex dr[j]
      obtain ⟨b, off, rfl, hbw, c0⟩ := (HE.out.d.below HBw.out).at hlt Hy.out
      obtain ⟨v3, w3, hrun, hj3, hs3⟩ := HJ.out.app hsz 125 [y] (by rw [hln]; simp; omega)
      have HJ3 : Hid (JG (w.heap.size + 1) w0 w3 v3 ((dr.length : Int) :: dr.take (j + 1))) := by
        unfold Hid
        rw [snocI hlt Hy.out]
        exact hj3
      simp only [ji, List.map_cons, List.map_nil, List.length_singleton] at hrun
      clear hj3
      go_wp2_with (at_builtin; refine wpList_app_runG rfl _ _ 125 125 rfl rfl _ _ _ rfl rfl hrun ?_)
      go_roundw
      case rel => exact ⟨j + 1, by go_num, by omega, hs3, HJ3⟩
      case measure => simp [intOf]; omega
    · have hlt' : ¬ (j : Int) < (dr.length : Int) := by omega
      have HJe : Hid (JG (w.heap.size + 1) w0 wr u3 ((dr.length : Int) :: dr)) := by
        have := HJ.out
        rwa [List.take_of_length_le (by omega)] at this
      obtain ⟨oa, oc, hov, -⟩ := GOwn.form HJe.out.o
      rw [List.length_cons] at hov
      subst hov
      obtain ⟨v3, w3, hrun, hj3, hs3⟩ := HJe.out.app hsz 125 [(ad.length : Int)] (by simp; omega)
      have HJ3 : Hid (JG (w.heap.size + 1) w0 w3 v3 (((dr.length : Int) :: dr) ++ [(ad.length : Int)])) := hj3
      simp only [ji, List.map_cons, List.map_nil, List.length_singleton] at hrun
      obtain ⟨_, c1, _, _, _⟩ := five ((HJe.out.b.block w.heap.size (by omega)).trans HX0.out)
      obtain ⟨_, d1, _, _, _⟩ := five ((HJ3.out.b.block w.heap.size (by omega)).trans HX0.out)
      clear hj3 HJ HJe HBw
      go_wp2_with (at_builtin; refine wpList_app_runG rfl _ _ 125 125 rfl rfl _ _ _ rfl rfl hrun ?_)
      clear c1 d1 hrun hlt hlt' hj
      go_loopw [3, 33] (fun o i wr => ∃ j : Nat, i = .int .i64 (j : Int) ∧ j ≤ ad.length ∧ w.heap.size + 1 ≤ wr.heap.size ∧ Hid (JG (w.heap.size + 1) w0 wr o ((((dr.length : Int) :: dr) ++ [(ad.length : Int)]) ++ (ad.take j).flatMap Ru.n))) (fun _ i _ => ad.length - (intOf i).toNat)
      case atStart => exact ⟨0, rfl, by omega, hs3, by unfold Hid; simpa using HJ3.out⟩
      case round =>
        obtain ⟨j, rfl, hj, hsz, HJ⟩ := hrel
        have HBw : Hid (Below w.heap.size w wr) := HB0.out.trans (HJ.out.b.mono (by omega))
        have hfl : ((ad.take j).flatMap Ru.n).length = 3 * j := by rw [len3]; simp; omega
        have HLn : Hid (((((dr.length : Int) :: dr) ++ [(ad.length : Int)]) ++ (ad.take j).flatMap Ru.n).length = dr.length + 1 + 1 + 3 * j) := by unfold Hid; rw [List.length_append, hfl]; simp
        clear hfl
        obtain ⟨oa, oc, hov, -⟩ := GOwn.form HJ.out.o
        rw [HLn.out] at hov
        subst hov
        by_cases hlt : j < ad.length
        · have hlt' : (j : Int) < (ad.length : Int) := by omega
          obtain ⟨r, Hr⟩ := hid_ex ad[j]
          obtain ⟨b, off, rfl, hbw, c0, c1, c2⟩ := (HE.out.a.below HBw.out).at hlt Hr.out
          go_wp2_with (refine stop_store 72 _ _ rfl ?_)
          refine Stop.of ?_
          refine wpList_storeN rfl _ _ _ rfl wr.heap.size 0 (r3L r) rfl rfl _ _ (heap_alloc_new _ _) (by rw [r3L_len]; simp) (by kernel_rfl) (by kernel_rfl) ?_
          intro W hW
          obtain ⟨hbW, hxW, hlW⟩ := stW_nw hW (by simp [r3L_len])
          have HJW : Hid (JG (w.heap.size + 1) w0 W (.slice oa (dr.length + 1 + 1 + 3 * j) oc) ((((dr.length : Int) :: dr) ++ [(ad.length : Int)]) ++ (ad.take j).flatMap Ru.n)) := HJ.out.below hbW hsz
          obtain ⟨d0, d1, d2⟩ := three hxW
          obtain ⟨v3, w3, hrun, hj3, hs3⟩ := HJW.out.app (by omega) 125 [r.f, r.l, r.c] (by rw [HLn.out]; simp; omega)
          have HJ3 : Hid (JG (w.heap.size + 1) w0 w3 v3 ((((dr.length : Int) :: dr) ++ [(ad.length : Int)]) ++ (ad.take (j + 1)).flatMap Ru.n)) := by
            unfold Hid
            rw [snocR hlt Hr.out, ← List.append_assoc]
            exact hj3
          simp only [ji, List.map_cons, List.map_nil, List.length_cons, List.length_nil, Nat.reduceAdd] at hrun
          clear hj3 hW hbW hxW c0 c1 c2 HJ HJW
          go_wp2_with (at_builtin; refine wpList_app_runG rfl _ _ 125 125 rfl rfl _ _ _ rfl rfl hrun ?_)
          go_roundw
          case rel => exact ⟨j + 1, by go_num, by omega, hs3, HJ3⟩
          case measure => simp [intOf]; omega
        · have hlt' : ¬ (j : Int) < (ad.length : Int) := by omega
          obtain ⟨v3, w3, hrun, hj3, hs3⟩ := HJ.out.app hsz 125 [lo, ne, ma] (by rw [HLn.out]; simp; omega)
          obtain ⟨_, _, c2, c3, c4⟩ := five ((HJ.out.b.block w.heap.size (by omega)).trans HX0.out)
          have HJ3 : Hid (JG (w.heap.size + 1) w0 w3 v3 (nmE ⟨dr, ad, lo, ne, ma⟩)) := by
            unfold Hid
            rw [HNm.out]
            rw [List.take_of_length_le (by omega)] at hj3
            exact hj3
          simp only [ji, List.map_cons, List.map_nil, List.length_cons, List.length_nil, Nat.reduceAdd] at hrun
          clear hj3 HJ
          go_wp2_with (at_builtin; refine wpList_app_runG rfl _ _ 125 125 rfl rfl _ _ _ rfl rfl hrun ?_)
          go_ret
          exact ⟨_, rfl, HJ3.out.o, HB0.out.trans (HJ3.out.b.mono (by omega))⟩
end Go.Proofs.YtilbffgpniomcaaGreatDoor

/- manifest: Write. -/
namespace Go.Proofs.YtilbffgpniomcaaGreatDoor
open Go.RowKit

/-- What Write answers: its error and its bytes. -/
def edE {α : Type} (o : Option α) : Int := if o.isSome then 0 else 100
def smI (x : Ed) : Prop := ∀ v ∈ nmE x, v ≤ 9223372036854775807
theorem nmE_len (x : Ed) : (nmE x).length = 5 + x.dr.length + 3 * x.ad.length := by
  unfold nmE
  simp only [List.length_cons, List.length_append, len3, List.length_nil]; omega
set_option maxRecDepth 100000 in
set_option maxHeartbeats 2000000 in
theorem write13_any (dv av : Value) (x : Ed) (w : World) (h : EdR w dv av x) (hx : smI x) :
    Calls Tryz.prog 29 #[.agg #[dv, av, .int .i64 x.lo, .int .i64 x.ne, .int .i64 x.ma]] w fun e w' => ∃ v, e = .returned (.tuple #[v, .int .i64 (edE (edW x))]) ∧ Own w' w.heap.size v ((edW x).getD []) ∧ Below w.heap.size w w' := by
  obtain ⟨da, dc, rfl, hm1⟩ := h.d.form
  obtain ⟨aa, ac, rfl, hm2⟩ := h.a.form
  unfold maxLen at hm1 hm2
  have HE : Hid (EdR w (.slice da x.dr.length dc) (.slice aa x.ad.length ac) x) := h
  have HSm : Hid (smI x) := hx
  have HW : Hid (edW x = if 64 < x.dr.length ∨ 64 < x.ad.length then none else if okN (nmE x) = true then some (shB (nmE x)) else none) := rfl
  have hX0 : (w.alloc (.cells #[.slice da x.dr.length dc, .slice aa x.ad.length ac, .int .i64 x.lo, .int .i64 x.ne, .int .i64 x.ma] 52)).heap[w.heap.size]? = some (.cells #[.slice da x.dr.length dc, .slice aa x.ad.length ac, .int .i64 x.lo, .int .i64 x.ne, .int .i64 x.ma] 52) := heap_alloc_new _ _
  have HB0 : Hid (Below w.heap.size w (w.alloc (.cells #[.slice da x.dr.length dc, .slice aa x.ad.length ac, .int .i64 x.lo, .int .i64 x.ne, .int .i64 x.ma] 52))) := (Below.refl _ _).alloc (Nat.le_refl _) _
  obtain ⟨c0, c1, c2, c3, c4⟩ := five hX0
  clear h hx hX0
  by_cases h1 : 64 < x.dr.length
  · have HN : Hid (edW x = none) := by unfold Hid; rw [HW.out, if_pos (.inl h1)]
    have h1' : (64 : Int) < (x.dr.length : Int) := by omega
    clear HW
    go_enter Tryz.func29, Tryz.ntmps29
    go_wp2_with fail
    go_ret2
    rw [HN.out]
    exact ⟨_, rfl, Own.nil _ _, HB0.out⟩
  · have h1' : ¬ (64 : Int) < (x.dr.length : Int) := by omega
    by_cases h2 : 64 < x.ad.length
    · have HN : Hid (edW x = none) := by unfold Hid; rw [HW.out, if_pos (.inr h2)]
      have h2' : (64 : Int) < (x.ad.length : Int) := by omega
      clear HW
      go_enter Tryz.func29, Tryz.ntmps29
      go_wp2_with fail
      go_ret2
      rw [HN.out]
      exact ⟨_, rfl, Own.nil _ _, HB0.out⟩
    · have h2' : ¬ (64 : Int) < (x.ad.length : Int) := by omega
      have HW2 : Hid (edW x = if okN (nmE x) = true then some (shB (nmE x)) else none) := by unfold Hid; rw [HW.out, if_neg (by omega)]
      have HC : Hid (Calls Tryz.prog 65 #[.agg #[.slice da x.dr.length dc, .slice aa x.ad.length ac, .int .i64 x.lo, .int .i64 x.ne, .int .i64 x.ma]] (w.alloc (.cells #[.slice da x.dr.length dc, .slice aa x.ad.length ac, .int .i64 x.lo, .int .i64 x.ne, .int .i64 x.ma] 52)) fun e w' => ∃ v, e = .returned v ∧ JO w' v (nmE x) ∧ Below (w.alloc (.cells #[.slice da x.dr.length dc, .slice aa x.ad.length ac, .int .i64 x.lo, .int .i64 x.ne, .int .i64 x.ma] 52)).heap.size (w.alloc (.cells #[.slice da x.dr.length dc, .slice aa x.ad.length ac, .int .i64 x.lo, .int .i64 x.ne, .int .i64 x.ma] 52)) w') := numbers13_any _ _ x _ (HE.out.below HB0.out) (by omega) (by omega)
      have HL : Hid ((nmE x).length ≤ 100000 ∧ 0 < (nmE x).length) := by unfold Hid; rw [nmE_len]; omega
      clear HW
      go_enter Tryz.func29, Tryz.ntmps29
      go_wp2_with fail
      refine HC.out.mono ?_
      rintro e w1 ⟨v1, rfl, hj1, hb1⟩
      have HJ1 : Hid (JR w1 v1 (nmE x)) := hj1.jr
      have HB1 : Hid (Below w.heap.size w w1) := HB0.out.trans (hb1.mono HB0.out.size)
      clear HC hj1 hb1 c0 c1 c2 c3 c4
      go_wp2_with fail
      refine (min13_any v1 (nmE x) HL.out.2 w1 HJ1.out).mono ?_
      rintro e w2 ⟨m, rfl, hm, hw2⟩
      subst hw2
      by_cases hm0 : 0 ≤ m
      · have hm1 : ¬ m < 0 := by omega
        have hk : okN (nmE x) = true := by rw [← hm]; simpa using hm0
        have HK : Hid (okN (nmE x) = true) := hk
        clear hk hm
        go_wp2_with fail
        refine (short13_any v1 (nmE x) HL.out.1 (fun y hy => ⟨by have := List.all_eq_true.1 HK.out y hy; simpa using this, HSm.out y hy⟩) _ HJ1.out).mono ?_
        rintro e w3 ⟨v3, rfl, ho3, hb3⟩
        have HO3 : Hid (Own w3 w2.heap.size v3 (shB (nmE x))) := ho3
        have HB3 : Hid (Below w2.heap.size w2 w3) := hb3
        clear ho3 hb3
        go_wp2_with fail
        go_ret2
        rw [HW2.out, if_pos HK.out]
        exact ⟨_, rfl, HO3.out.mono HB1.out.size, HB1.out.trans (HB3.out.mono HB1.out.size)⟩
      · have hm1 : m < 0 := by omega
        have hk : okN (nmE x) = false := by rw [← hm]; simpa using hm1
        have HK : Hid (okN (nmE x) = false) := hk
        clear hk hm
        go_wp2_with fail
        go_ret2
        rw [HW2.out, HK.out]
        exact ⟨_, rfl, Own.nil _ _, HB1.out⟩
end Go.Proofs.YtilbffgpniomcaaGreatDoor

/- manifest: what stands while Read reads. -/
namespace Go.Proofs.YtilbffgpniomcaaGreatDoor
open Go.RowKit

theorem infoI13 : (Tryz.prog.info? 3).map (fun i => (i.zero, i.size, i.bytes)) = some (some (.int .i64 0), 1, 8) := by kernel_rfl
theorem infoU13 : (Tryz.prog.info? 72).map (fun i => (i.zero, i.size, i.bytes)) = some (some (.agg #[.int .i64 0, .int .i64 0, .int .i64 0]), 3, 24) := by kernel_rfl
/-- One more in a row, from a new block. -/
theorem run_one {w : World} (t ty e : TypeId) (i : TypeInfo) (z : Value) (size bytes : Nat) (ht : Tryz.prog.underlying t = some (.slice e)) (hi : Tryz.prog.info? e = some i) (hz : i.zero = some z) (hsize : i.size = size) (hby : i.bytes = bytes) (hzs : z.cells.size = size)
    (v : Value) (n : Nat) (xs : List Value) (h : GOwn w e size v n xs) (hk : ∀ k, v.ownBlock = some k → k < w.heap.size) (ys : List Value) (hy : ys.length = size) (h1 : ∀ u ∈ ys, u.oneCell' = true) (hn : n < 1000000) (hb : bytes ≤ 1000) :
    ∃ v' w', (Builtin.append_ #[t, t] ty #[v, .slice (some ⟨w.heap.size, 0, none⟩) 1 1]).run Tryz.prog (w.alloc (.cells ys.toArray e)) = .ok v' w' ∧ GOwn w' e size v' (n + 1) (xs ++ ys) ∧ (w.alloc (.cells ys.toArray e)).grownBy w' v.ownBlock ∧ (∀ k, v'.ownBlock = some k → v.ownBlock = some k ∨ (w.heap.size ≤ k ∧ k < w'.heap.size)) := by
  have h0 : GOwn (w.alloc (.cells ys.toArray e)) e size v n xs := GOwn.keep h fun k hq => Below.heap_alloc _ _ _ (hk k hq)
  have hb4 := heap_alloc_new w (.cells ys.toArray e)
  have hsr : GSrc (w.alloc (.cells ys.toArray e)) size (.slice (some ⟨w.heap.size, 0, none⟩) 1 1) 1 ys := by
    refine ⟨by rw [hy]; simp, .inr ⟨_, _, rfl, fun k u hq => ?_⟩⟩
    have ea : (⟨w.heap.size, 0, none⟩ : Addr).add k = ⟨w.heap.size, k, none⟩ := by simp [Addr.add]; omega
    rw [ea]
    simp only [World.cell?, hb4]
    simpa using hq
  obtain ⟨v', w', g1, g2, g3, g4⟩ := run_gapp (P := Tryz.prog) t ty e i z size bytes ht hi hz hsize hby hzs v n xs h0 _ 1 ys hsr h1 (by simp only [maxLen]; omega) (Nat.le_trans (Nat.mul_le_mul (show n + 1 ≤ 1000000 by omega) hb) (by decide))
  refine ⟨v', w', g1, g2, g3, fun k hq => ?_⟩
  rcases g4 k hq with h | h
  · exact .inl h
  · exact .inr ⟨by have := h.1; simp at this; omega, h.2⟩
theorem Onl.below_on {w W : World} {base : Nat} (h : Below base w W) : Onl (fun k => base ≤ k) w W := ⟨h.os, h.tape, h.output, h.size, fun k _ hn => h.block k (Nat.lt_of_not_le hn)⟩
/-- What stands. -/
structure RdS (w W : World) (dv av : Value) (q : Bool × List UInt8) (dr : List Int) (ad : List Ru) (x2 x3 x4 : Value) : Prop where
  b : Below w.heap.size w W
  n : NxI W (fun k => w.heap.size ≤ k) (w.heap.size + 1) (w.heap.size + 2) q
  z : W.heap[w.heap.size]? = some (.cells #[.slice none 0 0, .slice none 0 0, .int .i64 0, .int .i64 0, .int .i64 0] 52)
  f : ∃ T, W.heap[w.heap.size + 3]? = some (.cells #[nxV (w.heap.size + 1) (w.heap.size + 2)] T)
  x : W.heap[w.heap.size + 4]? = some (.cells #[dv, av, x2, x3, x4] 52)
  d : GOwn W 3 1 dv dr.length (dr.map ji)
  a : GOwn W 72 3 av ad.length (ad.flatMap r3L)
  dk : ∀ k, dv.ownBlock = some k → w.heap.size + 5 ≤ k ∧ k < W.heap.size
  ak : ∀ k, av.ownBlock = some k → w.heap.size + 5 ≤ k ∧ k < W.heap.size
section
variable {w W W' : World} {dv av : Value} {q : Bool × List UInt8} {dr : List Int} {ad : List Ru} {x2 x3 x4 : Value}
theorem RdS.sz (h : RdS w W dv av q dr ad x2 x3 x4) : w.heap.size + 4 < W.heap.size := (Array.getElem?_eq_some_iff.1 h.x).1
theorem RdS.keep (h : RdS w W dv av q dr ad x2 x3 x4) (hb : Below w.heap.size W W') {q' : Bool × List UInt8} (hn : NxI W' (fun k => w.heap.size ≤ k) (w.heap.size + 1) (w.heap.size + 2) q') (hk : ∀ k, k < W.heap.size → k ≠ w.heap.size + 1 → k ≠ w.heap.size + 2 → W'.heap[k]? = W.heap[k]?) : RdS w W' dv av q' dr ad x2 x3 x4 := by
  have hs := h.sz
  obtain ⟨T, hT⟩ := h.f
  exact ⟨h.b.trans hb, hn, (hk _ (by omega) (by omega) (by omega)).trans h.z, ⟨T, (hk _ (by omega) (by omega) (by omega)).trans hT⟩, (hk _ (by omega) (by omega) (by omega)).trans h.x, h.d.keep fun k e => hk k (h.dk k e).2 (by have := (h.dk k e).1; omega) (by have := (h.dk k e).1; omega), h.a.keep fun k e => hk k (h.ak k e).2 (by have := (h.ak k e).1; omega) (by have := (h.ak k e).1; omega), fun k e => ⟨(h.dk k e).1, Nat.lt_of_lt_of_le (h.dk k e).2 hb.size⟩, fun k e => ⟨(h.ak k e).1, Nat.lt_of_lt_of_le (h.ak k e).2 hb.size⟩⟩
theorem RdS.below (h : RdS w W dv av q dr ad x2 x3 x4) (hb : Below W.heap.size W W') : RdS w W' dv av q dr ad x2 x3 x4 :=
  h.keep (hb.mono (by have := h.sz; omega)) (h.n.below hb) fun k hk _ _ => hb.block k hk
theorem RdS.only (h : RdS w W dv av q dr ad x2 x3 x4) {q' : Bool × List UInt8} (hn : NxI W' (fun k => w.heap.size ≤ k) (w.heap.size + 1) (w.heap.size + 2) q') (ho : Onl (Bx (w.heap.size + 1) (w.heap.size + 2)) W W') : RdS w W' dv av q' dr ad x2 x3 x4 :=
  h.keep (ho.below (by have := h.sz; omega) fun k e => by rcases e with rfl | rfl <;> omega) hn fun k hk h1 h2 => ho.block k hk (by rintro (e | e) <;> omega)
theorem RdS.num (h : RdS w W dv av q dr ad x2 x3 x4) : Calls Tryz.prog 98 #[.pointer (some ⟨w.heap.size + 3, 0, none⟩)] W fun e W' => e = .returned (.int .i64 (stp big q).1) ∧ RdS w W' dv av (stp big q).2 dr ad x2 x3 x4 := by
  obtain ⟨T, hT⟩ := h.f
  exact (number2_any _ _ _ _ T q W h.n hT).mono fun _ _ ⟨h1, h2, h3⟩ => ⟨h1, h.only h2 h3⟩
theorem RdS.nxt (h : RdS w W dv av q dr ad x2 x3 x4) (most : Nat) (hm : most ≤ 9223372036854775807) : Calls Tryz.prog 97 #[.int .u64 (most : Int), .pointer (some ⟨w.heap.size + 1, 0, none⟩), .pointer (some ⟨w.heap.size + 2, 0, none⟩)] W fun e W' => e = .returned (.int .i64 (stp most q).1) ∧ RdS w W' dv av (stp most q).2 dr ad x2 x3 x4 :=
  (next1_any most hm _ _ _ q W h.n).mono fun _ _ ⟨h1, h2, h3⟩ => ⟨h1, h.only h2 h3⟩
/-- A cell of x is set. -/
theorem RdS.set0 {v' : Value} {dr' : List Int} (h : RdS w W dv av q dr ad x2 x3 x4) (ho : Onl (fun k => dv.ownBlock = some k) W W') (hd : GOwn W' 3 1 v' dr'.length (dr'.map ji)) (hk : ∀ k, v'.ownBlock = some k → dv.ownBlock = some k ∨ (W.heap.size ≤ k ∧ k < W'.heap.size)) :
    W'.heap[w.heap.size + 4]? = some (.cells #[dv, av, x2, x3, x4] 52) ∧ RdS w (W'.setCell ⟨w.heap.size + 4, 0, none⟩ v') v' av q dr' ad x2 x3 x4 := by
  have hs := h.sz
  have hsz := ho.size
  have lo : ∀ k, k < w.heap.size + 5 → W'.heap[k]? = W.heap[k]? := fun k hk => ho.block k (by omega) fun e => by have := (h.dk k e).1; omega
  have hx : W'.heap[w.heap.size + 4]? = some (.cells #[dv, av, x2, x3, x4] 52) := (lo _ (by omega)).trans h.x
  have hset : ∀ k, k ≠ w.heap.size + 4 → (W'.setCell ⟨w.heap.size + 4, 0, none⟩ v').heap[k]? = W'.heap[k]? := fun k hk => Go.heap_setCell_other _ _ _ _ hk
  have hb1 : Below w.heap.size W W' := ho.below (by omega) fun k e => by have := (h.dk k e).1; omega
  have hb2 : Below w.heap.size W (W'.setCell ⟨w.heap.size + 4, 0, none⟩ v') := hb1.setCell (by show w.heap.size ≤ w.heap.size + 4; omega) _
  have hne : ∀ k, dv.ownBlock = some k → av.ownBlock = some k → False := fun k e1 e2 => by
    obtain ⟨c1, g1⟩ := h.d.block e1
    obtain ⟨c2, g2⟩ := h.a.block e2
    exact ty_ne g1 g2 (by decide) rfl
  have hzs : (W'.setCell ⟨w.heap.size + 4, 0, none⟩ v').heap.size = W'.heap.size := by simp [World.setCell]
  obtain ⟨T, hT⟩ := h.f
  refine ⟨hx, ⟨h.b.trans hb2, h.n.on (Onl.below_on hb2) ?_ ?_, ?_, ⟨T, ?_⟩, ?_, ?_, ?_, fun k e => ?_, fun k e => ?_⟩⟩
  · rw [hset _ (by omega), lo _ (by omega)]
  · rw [hset _ (by omega), lo _ (by omega)]
  · rw [hset _ (by omega), lo _ (by omega)]; exact h.z
  · rw [hset _ (by omega), lo _ (by omega)]; exact hT
  · rw [heap_setCell_same _ _ _ _ _ _ hx]; rfl
  · refine hd.keep fun k e => hset k ?_
    rcases hk k e with g | g
    · have := (h.dk k g).1; omega
    · omega
  · refine h.a.keep fun k e => ?_
    rw [hset k (by have := (h.ak k e).1; omega), ho.block k (h.ak k e).2 fun g => hne k g e]
  · rw [hzs]
    rcases hk k e with g | g
    · have := h.dk k g; omega
    · omega
  · rw [hzs]; have := h.ak k e; omega
theorem RdS.set1 {v' : Value} {ad' : List Ru} (h : RdS w W dv av q dr ad x2 x3 x4) (ho : Onl (fun k => av.ownBlock = some k) W W') (hd : GOwn W' 72 3 v' ad'.length (ad'.flatMap r3L)) (hk : ∀ k, v'.ownBlock = some k → av.ownBlock = some k ∨ (W.heap.size ≤ k ∧ k < W'.heap.size)) :
    W'.heap[w.heap.size + 4]? = some (.cells #[dv, av, x2, x3, x4] 52) ∧ RdS w (W'.setCell ⟨w.heap.size + 4, 1, none⟩ v') dv v' q dr ad' x2 x3 x4 := by
  have hs := h.sz
  have hsz := ho.size
  have lo : ∀ k, k < w.heap.size + 5 → W'.heap[k]? = W.heap[k]? := fun k hk => ho.block k (by omega) fun e => by have := (h.ak k e).1; omega
  have hx : W'.heap[w.heap.size + 4]? = some (.cells #[dv, av, x2, x3, x4] 52) := (lo _ (by omega)).trans h.x
  have hset : ∀ k, k ≠ w.heap.size + 4 → (W'.setCell ⟨w.heap.size + 4, 1, none⟩ v').heap[k]? = W'.heap[k]? := fun k hk => Go.heap_setCell_other _ _ _ _ hk
  have hb1 : Below w.heap.size W W' := ho.below (by omega) fun k e => by have := (h.ak k e).1; omega
  have hb2 : Below w.heap.size W (W'.setCell ⟨w.heap.size + 4, 1, none⟩ v') := hb1.setCell (by show w.heap.size ≤ w.heap.size + 4; omega) _
  have hne : ∀ k, dv.ownBlock = some k → av.ownBlock = some k → False := fun k e1 e2 => by
    obtain ⟨c1, g1⟩ := h.d.block e1
    obtain ⟨c2, g2⟩ := h.a.block e2
    exact ty_ne g1 g2 (by decide) rfl
  have hzs : (W'.setCell ⟨w.heap.size + 4, 1, none⟩ v').heap.size = W'.heap.size := by simp [World.setCell]
  obtain ⟨T, hT⟩ := h.f
  refine ⟨hx, ⟨h.b.trans hb2, h.n.on (Onl.below_on hb2) ?_ ?_, ?_, ⟨T, ?_⟩, ?_, ?_, ?_, fun k e => ?_, fun k e => ?_⟩⟩
  · rw [hset _ (by omega), lo _ (by omega)]
  · rw [hset _ (by omega), lo _ (by omega)]
  · rw [hset _ (by omega), lo _ (by omega)]; exact h.z
  · rw [hset _ (by omega), lo _ (by omega)]; exact hT
  · rw [heap_setCell_same _ _ _ _ _ _ hx]; rfl
  · refine h.d.keep fun k e => ?_
    rw [hset k (by have := (h.dk k e).1; omega), ho.block k (h.dk k e).2 fun g => hne k e g]
  · refine hd.keep fun k e => hset k ?_
    rcases hk k e with g | g
    · have := (h.ak k g).1; omega
    · omega
  · rw [hzs]; have := h.dk k e; omega
  · rw [hzs]
    rcases hk k e with g | g
    · have := h.ak k g; omega
    · omega
theorem RdS.drop (h : RdS w W dv av q dr ad x2 x3 x4) (y : Int) (hl : dr.length < 1000000) :
    ∃ v' W', (Builtin.append_ #[50, 50] 50 #[dv, .slice (some ⟨W.heap.size, 0, none⟩) 1 1]).run Tryz.prog (W.alloc (.cells #[.int .i64 y] 3)) = .ok v' W' ∧ W'.heap[w.heap.size + 4]? = some (.cells #[dv, av, x2, x3, x4] 52) ∧ RdS w (W'.setCell ⟨w.heap.size + 4, 0, none⟩ v') v' av q (dr ++ [y]) ad x2 x3 x4 := by
  obtain ⟨i0, hi, hz0, hz1, hz2⟩ := info_parts infoI13
  obtain ⟨v', W', h1, h2, h3, h4⟩ := run_one 50 50 3 i0 _ 1 8 Tryz.underlying50 hi hz0 hz1 hz2 rfl dv dr.length _ h.d (fun k e => (h.dk k e).2) [ji y] rfl (by simp [ji]; rfl) hl (by decide)
  have hg : Onl (fun k => dv.ownBlock = some k) W W' := (Onl.alloc _).then (Onl.grown h3 fun k e => e)
  have hd : GOwn W' 3 1 v' (dr ++ [y]).length ((dr ++ [y]).map ji) := by rw [List.length_append, List.map_append]; exact h2
  obtain ⟨hx, hr⟩ := h.set0 hg hd h4
  exact ⟨v', W', h1, hx, hr⟩
theorem RdS.add (h : RdS w W dv av q dr ad x2 x3 x4) (r : Ru) (hl : ad.length < 1000000) :
    ∃ v' W', (Builtin.append_ #[31, 31] 31 #[av, .slice (some ⟨W.heap.size, 0, none⟩) 1 1]).run Tryz.prog (W.alloc (.cells #[.int .i64 r.f, .int .i64 r.l, .int .i64 r.c] 72)) = .ok v' W' ∧ W'.heap[w.heap.size + 4]? = some (.cells #[dv, av, x2, x3, x4] 52) ∧ RdS w (W'.setCell ⟨w.heap.size + 4, 1, none⟩ v') dv v' q dr (ad ++ [r]) x2 x3 x4 := by
  obtain ⟨i0, hi, hz0, hz1, hz2⟩ := info_parts infoU13
  obtain ⟨v', W', h1, h2, h3, h4⟩ := run_one 31 31 72 i0 _ 3 24 Tryz.underlying31 hi hz0 hz1 hz2 rfl av ad.length _ h.a (fun k e => (h.ak k e).2) (r3L r) rfl (by intro u hu; simp [r3L] at hu; rcases hu with rfl | rfl | rfl <;> rfl) hl (by decide)
  have hg : Onl (fun k => av.ownBlock = some k) W W' := (Onl.alloc _).then (Onl.grown h3 fun k e => e)
  have hd : GOwn W' 72 3 v' (ad ++ [r]).length ((ad ++ [r]).flatMap r3L) := by rw [List.length_append, List.flatMap_append]; simpa using h2
  obtain ⟨hx, hr⟩ := h.set1 hg hd h4
  exact ⟨v', W', h1, hx, hr⟩
theorem RdS.fin (h : RdS w W dv av q dr ad x2 x3 x4) (a b c : Value) : RdS w (((W.setCell ⟨w.heap.size + 4, 2, none⟩ a).setCell ⟨w.heap.size + 4, 3, none⟩ b).setCell ⟨w.heap.size + 4, 4, none⟩ c) dv av q dr ad a b c := by
  have hs := h.sz
  have hset : ∀ k, k ≠ w.heap.size + 4 → (((W.setCell ⟨w.heap.size + 4, 2, none⟩ a).setCell ⟨w.heap.size + 4, 3, none⟩ b).setCell ⟨w.heap.size + 4, 4, none⟩ c).heap[k]? = W.heap[k]? := fun k hk => by rw [Go.heap_setCell_other _ _ _ _ hk, Go.heap_setCell_other _ _ _ _ hk, Go.heap_setCell_other _ _ _ _ hk]
  have hb2 : Below w.heap.size W (((W.setCell ⟨w.heap.size + 4, 2, none⟩ a).setCell ⟨w.heap.size + 4, 3, none⟩ b).setCell ⟨w.heap.size + 4, 4, none⟩ c) := (((Below.refl _ _).setCell (by show w.heap.size ≤ w.heap.size + 4; omega) _).setCell (by show w.heap.size ≤ w.heap.size + 4; omega) _).setCell (by show w.heap.size ≤ w.heap.size + 4; omega) _
  have hzs : (((W.setCell ⟨w.heap.size + 4, 2, none⟩ a).setCell ⟨w.heap.size + 4, 3, none⟩ b).setCell ⟨w.heap.size + 4, 4, none⟩ c).heap.size = W.heap.size := by simp [World.setCell]
  obtain ⟨T, hT⟩ := h.f
  refine ⟨h.b.trans hb2, h.n.on (Onl.below_on hb2) (hset _ (by omega)) (hset _ (by omega)), (hset _ (by omega)).trans h.z, ⟨T, (hset _ (by omega)).trans hT⟩, ?_, h.d.keep fun k e => hset k (by have := (h.dk k e).1; omega), h.a.keep fun k e => hset k (by have := (h.ak k e).1; omega), fun k e => by rw [hzs]; exact h.dk k e, fun k e => by rw [hzs]; exact h.ak k e⟩
  rw [heap_setCell_same _ _ _ _ _ _ (heap_setCell_same _ _ _ _ _ _ (heap_setCell_same _ _ _ _ _ _ h.x))]; rfl
end
end Go.Proofs.YtilbffgpniomcaaGreatDoor
