/- BK7, joined. -/
import Derived.Test.YtlpjdfgknmfmnaaTF22
import Derived.Test.YtlpjdfgknmfmnaaTF23
import Derived.RangeFuncNested
import Derived.RangeFuncBound
import Derived.RangeFuncCalls
import Derived.RangeFuncBox
import Derived.Shelf.Abstract
import Derived.Shelf.RegionOpen
import Derived.WalkKit
import Derived.OwnWalkIn
import Derived.TacticsInMore
import Derived.LoopNIn
import Derived.LoopIn
import Derived.RegionIn
import Derived.Sort.QuietIn
/- The contract of pairs: what the function that is ranged over hands over. -/
namespace Go.Proofs.Ytlpjdfgknmfmnaa
open Go.RowKit Go.Shelf
attribute [local go_sem] Oper.semAt_some

/-- What is handed over: a pair, and what stands behind it. -/
structure Pe where
  kv : Value
  vv : Value
  p : Pr
  bv : Value
  r : List UInt8
def Pe.encs (x : Pe) : Array Value := #[.agg #[x.kv, x.vv], x.bv]
def PreP (w : World) (pre : List Pe) (x : Pe) (W : World) : Prop := Own W w.heap.size x.kv x.p.1 ∧ Own W w.heap.size x.vv x.p.2 ∧ Reads w x.bv x.r ∧ pre.length < 4096
/-- What is left behind them. -/
def lastR (b : List UInt8) (xs : List Pe) : List UInt8 := match xs.getLast? with | none => b | some x => x.r
theorem lastR_snoc (b : List UInt8) (xs : List Pe) (x : Pe) : lastR b (xs ++ [x]) = x.r := by simp [lastR]
def SP (b : List UInt8) (xs : List Pe) : Prop := xs.map Pe.p = (prF 4096 0 [] b).1 ∧ lastR b xs = (prF 4096 0 [] b).2
theorem prF_none {n i : Nat} {ah : Ks} {b : List UInt8} (h : nx b i ah = none) : prF n i ah b = ([], b) := by
  cases n with
  | zero => rfl
  | succ n => unfold prF; rw [h]
theorem prF_some {n i : Nat} {ah : Ks} {b : List UInt8} {x : Pr} {t : Nat} (h : nx b i ah = some (x, t)) : prF (n + 1) i ah b = (x :: (prF n (i + 1) x.1 (b.drop t)).1, (prF n (i + 1) x.1 (b.drop t)).2) := by
  rw [prF, h]
theorem wpIn_named {c : Code} {F : Fence} {n : Nat} {P : Program} {Q : Exit → Act → World → Prop} {a : Act} {w : World} (h : ∀ QQ, Hid (QQ = Q) → c.wpIn F n P QQ a w) : c.wpIn F n P Q a w := h Q rfl
theorem own_kb {A B : World} {m : Nat} {v : Value} {l : List UInt8} (h : Own A m v l) (hk : Kb m A B) : Own B m v l := by
  refine ⟨h.1, ?_⟩
  rcases h.2 with h2 | ⟨g, cap, cur, hv, hg, hw, r⟩
  · exact .inl h2
  · exact .inr ⟨g, cap, cur, hv, hg, (hk g hg (Array.getElem?_eq_some_iff.1 hw).1).trans hw, r⟩
set_option maxRecDepth 100000 in
set_option maxHeartbeats 4000000 in
theorem pairs1_in (n : Nat) (_hn : 1 ≤ n) (l Bn : Nat) (v : Value) (bs : List UInt8) (hbl : bs.length ≤ 1000000) (w : World) (hR : Reads w v bs) (J Jx : List Pe → World → Prop) (W : World) (hW : Below w.heap.size w W)
    (hJ : ∀ pre A B, J pre A → Below A.heap.size A B → J pre B) (hJx : ∀ pre A B, Jx pre A → Below A.heap.size A B → Jx pre B)
    (hY : ∀ pre x W0 W1, J pre W0 → Below W0.heap.size W0 W1 → PreP w pre x W1 → w.heap.size ≤ W0.heap.size → YieldAt Fence.wide (n - 1) Try.prog l x.encs W1 fun e W' => (e = .returned (.bool true) ∧ J (pre ++ [x]) W' ∧ Below w.heap.size W1 W' ∧ Kb W0.heap.size W1 W') ∨ (e = .returned (.bool false) ∧ Jx (pre ++ [x]) W'))
    (hBn : W.cell? ⟨Bn, 0, none⟩ = some v) (h0 : J [] W) :
    CallsIn Fence.wide n Try.prog 93 #[.func (.yield l) #[] #[], .pointer (some ⟨Bn, 0, none⟩)] W fun e W' => (∃ v, e = .returned v) ∧ ((∃ xs, SP bs xs ∧ J xs W') ∨ ∃ xs, True ∧ Jx xs W') := by
  obtain ⟨a, cap, rfl, _⟩ := hR.form
  have HJ : Hid (∀ pre A B, J pre A → Below A.heap.size A B → J pre B) := hJ
  have HJx : Hid (∀ pre A B, Jx pre A → Below A.heap.size A B → Jx pre B) := hJx
  have HY : Hid (∀ pre x W0 W1, J pre W0 → Below W0.heap.size W0 W1 → PreP w pre x W1 → w.heap.size ≤ W0.heap.size → YieldAt Fence.wide (n - 1) Try.prog l x.encs W1 fun e W' => (e = .returned (.bool true) ∧ J (pre ++ [x]) W' ∧ Below w.heap.size W1 W' ∧ Kb W0.heap.size W1 W') ∨ (e = .returned (.bool false) ∧ Jx (pre ++ [x]) W')) := hY
  have HR0 : Hid (Reads w (.slice a bs.length cap) bs) := hR
  have HW0 : Hid (Below w.heap.size w W) := hW
  clear hJ hJx hY hR hW
  refine callsIn_of_wp Try.func93 rfl trivial ?_ rfl
  simp only [Try.ntmps93, List.size_toArray, List.length_cons, List.length_nil, Nat.reduceAdd, Nat.reduceSub, Array.replicate_succ, Array.replicate_zero, List.push_toArray, List.append_toArray, List.nil_append, List.cons_append]
  gi_wp2
  gi_loopw [3, 4, 9] (fun av lv i wr => ∃ (k : Nat) (AH : Ks) (r : List UInt8) (pre : List Pe), k ≤ 4096 ∧ i = .int .i64 (k : Int) ∧ Hid (pre.length = k) ∧ Hid (Reads wr av AH) ∧ Hid (Reads w lv r) ∧ r.length ≤ bs.length ∧ Hid (lastR bs pre = r) ∧ Hid (prF 4096 0 [] bs = (pre.map Pe.p ++ (prF (4096 - k) k AH r).1, (prF (4096 - k) k AH r).2)) ∧ J pre wr ∧ Hid (Below w.heap.size w wr)) (fun _ _ i _ => 4096 - (intOf i).toNat)
  case atStart => exact ⟨0, [], bs, [], by omega, rfl, rfl, .inl ⟨rfl, _, _, rfl, fun _ => rfl⟩, HR0, Nat.le_refl _, rfl, rfl, h0, HW0⟩
  case round =>
    obtain ⟨k, AH, r, pre, hk, rfl, HPL, HA, HR, hrl, HLR, HPF, hJp, HB⟩ := hrel
    by_cases hlt : (k : Int) < 4096
    · obtain ⟨aa, ca, rfl, _⟩ := HA.out.form
      obtain ⟨ar, cr, rfl, _⟩ := HR.out.form
      have HC : Hid _ := next_any _ _ r k (by omega) AH (by omega) wr (HR.out.below HB.out) HA.out
      gi_wp2_with fail
      refine ⟨trivial, ?_⟩
      refine (callsIn_wide.2 HC.out).mono ?_
      clear HC
      rintro e w1 ⟨hb1, hq⟩
      cases hnx : nx r k AH with
      | none =>
        rw [hnx] at hq
        dsimp only at hq
        subst hq
        have HS : Hid (SP bs pre) := by
          unfold Hid SP
          rw [HPF.out, prF_none hnx, List.append_nil, HLR.out]
          exact ⟨rfl, rfl⟩
        have hJ1 : J pre w1 := HJ.out pre _ _ hJp hb1
        clear hb1 hnx
        obtain ⟨w2, HW2⟩ := hid_ex (w1.alloc (.cells #[.slice none 0 0, .slice none 0 0] 53))
        have hJ2 : J pre w2 := by rw [HW2.out]; exact HJ.out pre _ _ hJ1 ((Below.refl _ _).alloc (Nat.le_refl _) _)
        gi_wp2_with fail
        rw [← HW2.out]
        refine wpIn_region_quiet_lit rfl (by kernel_rfl) (by kernel_rfl) ?_
        repeat (gi_big_quiet_step (fail))
        refine Go.BigFrame.wpQuietIn_skip (fun _ _ _ _ => trivial) rfl ?_
        simp only [Act.put, List.setIfInBounds_toArray, List.set_cons_zero, List.set_cons_succ]
        repeat (gi_big_quiet_step (fail))
        refine wpQuietIn_nil ?_
        rintro _ ⟨nq, rfl⟩
        have hJ3 : J pre (w2.drewN nq) := HJ.out pre _ _ hJ2 (below_drewN (Below.refl _ _) nq)
        gi_wp2
        refine bodyPost_ret (results_none rfl _ _ _) rfl ?_
        exact ⟨⟨_, rfl⟩, .inl ⟨pre, HS.out, hJ3⟩⟩
      | some q =>
        obtain ⟨x, t⟩ := q
        rw [hnx] at hq
        dsimp only at hq
        obtain ⟨kv, vv, rfl, ho1, ho2⟩ := hq
        obtain ⟨t1, t2, _, _, _⟩ := nx_back hnx
        have HPF2 : Hid (prF 4096 0 [] bs = ((pre.map Pe.p ++ [x]) ++ (prF (4096 - (k + 1)) (k + 1) x.1 (r.drop t)).1, (prF (4096 - (k + 1)) (k + 1) x.1 (r.drop t)).2)) := by
          unfold Hid
          rw [HPF.out, show 4096 - k = (4096 - (k + 1)) + 1 by omega, prF_some hnx]
          simp
        obtain ⟨a1, c1, rfl, _⟩ := ho1.form
        obtain ⟨a2, c2, rfl, _⟩ := ho2.form
        obtain ⟨ad, cd, hsl, hrd⟩ := sl_from HR.out (c := t) t2
        obtain ⟨w2, HW2⟩ := hid_ex (w1.alloc (.cells #[.slice a1 x.1.length c1, .slice a2 x.2.length c2] 53))
        have HB2' : Hid (Below wr.heap.size wr w2) := by rw [HW2.out]; exact hb1.alloc hb1.size _
        have HB2 : Hid (Below w.heap.size w w2) := HB.out.trans (HB2'.out.mono HB.out.size)
        have HO1 : Hid (Own w2 wr.heap.size (.slice a1 x.1.length c1) x.1) := by rw [HW2.out]; exact ho1.alloc _
        have HO2 : Hid (Own w2 wr.heap.size (.slice a2 x.2.length c2) x.2) := by rw [HW2.out]; exact ho2.alloc _
        have HZ2 : Hid (w2.heap[w1.heap.size]? = some (.cells #[.slice a1 x.1.length c1, .slice a2 x.2.length c2] 53)) := by rw [HW2.out]; exact World.alloc_heap_new _ _
        have HSz : Hid (wr.heap.size ≤ w1.heap.size) := hb1.size
        have HRd : Hid (Reads w (.slice ad (r.length - t) cd) (r.drop t)) := hrd
        clear hb1 ho1 ho2 hrd hnx HPF
        obtain ⟨fn, tmps, assign, body, hy, hRd⟩ := HY.out pre ⟨.slice a1 x.1.length c1, .slice a2 x.2.length c2, x, .slice ad (r.length - t) cd, r.drop t⟩ wr w2.drew hJp HB2'.out.drew ⟨HO1.out.mono HB.out.size, HO2.out.mono HB.out.size, HRd.out, by have := HPL.out; omega⟩ HB.out.size
        dsimp only [Pe.encs] at hy
        have ht1 : ¬ t = 0 := by omega
        have z0 := cell_rw HZ2.out 0 (by simp)
        have z1 := cell_rw HZ2.out 1 (by simp)
        simp only [List.getElem_toArray, List.getElem_cons_succ, List.getElem_cons_zero] at z0 z1
        gi_wp2_with fail
        rw [← HW2.out]
        refine wpIn_named (fun QQ HQQ => ?_)
        have REST1 : ∀ W3, J (pre ++ [(⟨.slice a1 x.1.length c1, .slice a2 x.2.length c2, x, .slice ad (r.length - t) cd, r.drop t⟩ : Pe)]) W3 → Below w.heap.size w2.drew W3 → Kb wr.heap.size w2.drew W3 → QQ .normal { tmps := #[.func (.yield l) #[] #[], .pointer (some ⟨Bn, 0, none⟩), undef, .slice aa AH.length ca, .slice ar r.length cr, .int .i64 (k : Int), .pointer (some ⟨w1.heap.size, 0, none⟩), .int .i64 (t : Int), .slice a bs.length cap, .int .i64 (k : Int), .bool true, .int .i64 (k : Int), .tuple #[.agg #[.slice a1 x.1.length c1, .slice a2 x.2.length c2], .int .i64 (t : Int)], .slice ar r.length cr, .int .i64 (k : Int), .slice aa AH.length ca, .tuple #[.agg #[.slice a1 x.1.length c1, .slice a2 x.2.length c2], .int .i64 (t : Int)], .agg #[.slice a1 x.1.length c1, .slice a2 x.2.length c2], .int .i64 (t : Int), .int .i64 (t : Int), .bool ((t : Int) == 0), .bool ((t : Int) == 0), .func (.yield l) #[] #[], .agg #[.slice a1 x.1.length c1, .slice a2 x.2.length c2], .slice ar r.length cr, .int .i64 (t : Int), .slice ad (r.length - t) cd, .bool true, .bool false, .bool ((t : Int) == 0), u30, u31, u32, u33, u34, u35], defers := [] } W3 := by
          intro W3 hJ3 hb3 hk3
          rw [HQQ.out]
          have HB3 : Hid (Below w.heap.size w W3) := HB2.out.drew.trans hb3
          have HZ3 : Hid (W3.heap[w1.heap.size]? = some (.cells #[.slice a1 x.1.length c1, .slice a2 x.2.length c2] 53)) := (hk3 _ HSz.out (Array.getElem?_eq_some_iff.1 HZ2.out).1).trans HZ2.out
          have HO3 : Hid (Own W3 wr.heap.size (.slice a1 x.1.length c1) x.1) := own_kb HO1.out hk3
          have HL3 : Hid (lastR bs (pre ++ [(⟨.slice a1 x.1.length c1, .slice a2 x.2.length c2, x, .slice ad (r.length - t) cd, r.drop t⟩ : Pe)]) = r.drop t) := lastR_snoc _ _ _
          have HP3 : Hid (prF 4096 0 [] bs = ((pre ++ [(⟨.slice a1 x.1.length c1, .slice a2 x.2.length c2, x, .slice ad (r.length - t) cd, r.drop t⟩ : Pe)]).map Pe.p ++ (prF (4096 - (k + 1)) (k + 1) x.1 (r.drop t)).1, (prF (4096 - (k + 1)) (k + 1) x.1 (r.drop t)).2)) := by rw [HPF2.out]; simp [Hid]
          have HN3 : Hid ((pre ++ [(⟨.slice a1 x.1.length c1, .slice a2 x.2.length c2, x, .slice ad (r.length - t) cd, r.drop t⟩ : Pe)]).length = k + 1) := by unfold Hid; rw [List.length_append, HPL.out]; rfl
          have hbt : ((t : Int) == 0) = false := by simp; omega
          clear hb3 hk3 HZ2 HO1 HO2 HB2 HB2' z0 z1
          have z0 := cell_rw HZ3.out 0 (by simp)
          simp only [List.getElem_toArray, List.getElem_cons_zero] at z0
          rw [hbt]
          gi_wp2_with fail
          gi_quiet (fail)
          have hJ4 := HJ.out _ _ (W3.drewN nq) hJ3 (below_drewN (Below.refl _ _) nq)
          have HB4 : Hid (Below w.heap.size w (W3.drewN nq)) := below_drewN HB3.out nq
          have HO4 : Hid (Reads (W3.drewN nq) (.slice a1 x.1.length c1) x.1) := HO3.out.reads.below (below_drewN (Below.refl _ _) nq)
          clear z0 HZ3 HB3 HO3 hJ3
          gi_wp2
          go_roundw
          case rel => exact ⟨k + 1, x.1, r.drop t, _, by omega, by go_num, HN3, HO4, HRd, by simp; omega, HL3, HP3, hJ4, HB4⟩
          case measure => simp [intOf]; omega
        have REST2 : ∀ W3, Jx (pre ++ [(⟨.slice a1 x.1.length c1, .slice a2 x.2.length c2, x, .slice ad (r.length - t) cd, r.drop t⟩ : Pe)]) W3 → QQ .normal { tmps := #[.func (.yield l) #[] #[], .pointer (some ⟨Bn, 0, none⟩), undef, .slice aa AH.length ca, .slice ar r.length cr, .int .i64 (k : Int), .pointer (some ⟨w1.heap.size, 0, none⟩), .int .i64 (t : Int), .slice a bs.length cap, .int .i64 (k : Int), .bool true, .int .i64 (k : Int), .tuple #[.agg #[.slice a1 x.1.length c1, .slice a2 x.2.length c2], .int .i64 (t : Int)], .slice ar r.length cr, .int .i64 (k : Int), .slice aa AH.length ca, .tuple #[.agg #[.slice a1 x.1.length c1, .slice a2 x.2.length c2], .int .i64 (t : Int)], .agg #[.slice a1 x.1.length c1, .slice a2 x.2.length c2], .int .i64 (t : Int), .int .i64 (t : Int), .bool ((t : Int) == 0), .bool ((t : Int) == 0), .func (.yield l) #[] #[], .agg #[.slice a1 x.1.length c1, .slice a2 x.2.length c2], .slice ar r.length cr, .int .i64 (t : Int), .slice ad (r.length - t) cd, .bool false, .bool true, .bool true, u30, u31, u32, u33, u34, u35], defers := [] } W3 := by
          intro W3 hX3
          rw [HQQ.out]
          gi_wp2
          refine bodyPost_ret (results_none rfl _ _ _) rfl ?_
          exact ⟨⟨_, rfl⟩, .inr ⟨_, hX3⟩⟩
        have HR1 : Hid _ := REST1
        have HR2 : Hid _ := REST2
        clear REST1 REST2 HQQ
        refine wpIn_region_any (by kernel_rfl) ?_
        refine wpAnyIn_ready (rs := [0]) (by kernel_rfl) (by simp) ?_
        refine AllReadyIn.cons rfl (fun K hK => ?_) AllReadyIn.nil
        go_simp
        refine hK _ _ ?_
        refine wpAnyIn_ready (rs := [1]) (by kernel_rfl) (by simp) ?_
        refine AllReadyIn.cons rfl (fun K hK => ?_) AllReadyIn.nil
        go_simp
        refine hK _ _ ?_
        refine wpAnyIn_ready (rs := [2]) (by kernel_rfl) (by simp) ?_
        refine AllReadyIn.cons rfl (fun K hK => ?_) AllReadyIn.nil
        go_simp
        refine hK _ _ ?_
        refine wpAnyIn_ready (rs := [3, 4, 5, 6]) (by kernel_rfl) (by simp) ?_
        refine AllReadyIn.cons rfl (fun K hK => ?_) (AllReadyIn.cons rfl (fun K hK => ?_) (AllReadyIn.cons rfl (fun K hK => ?_) (AllReadyIn.cons rfl (fun K hK => ?_) AllReadyIn.nil)))
        · go_simp
          refine hK _ _ ?_
          refine wpAnyIn_ready (rs := [4, 5, 6]) (by kernel_rfl) (by simp) ?_
          refine AllReadyIn.cons rfl (fun K hK => ?_) (AllReadyIn.cons rfl (fun K hK => ?_) (AllReadyIn.cons rfl (fun K hK => ?_) AllReadyIn.nil))
          · go_simp
            refine hK _ _ ?_
            refine wpAnyIn_ready (rs := [5, 6]) (by kernel_rfl) (by simp) ?_
            refine AllReadyIn.cons rfl (fun K hK => ?_) (AllReadyIn.cons rfl (fun K hK => ?_) AllReadyIn.nil)
            · go_simp
              refine hK _ _ ?_
              refine wpAnyIn_ready (rs := [6]) (by kernel_rfl) (by simp) ?_
              refine AllReadyIn.cons rfl (fun K hK => ?_) AllReadyIn.nil
              go_simp
              refine hK _ _ ?_
              refine wpAnyIn_ready (rs := [7]) (by kernel_rfl) (by simp) ?_
              refine AllReadyIn.cons rfl (fun K hK => ?_) AllReadyIn.nil
              go_simp
              refine hK _ _ ?_
              refine wpAnyIn_ready (rs := [8]) (by kernel_rfl) (by simp) ?_
              refine AllReadyIn.cons rfl (fun K hK => ?_) AllReadyIn.nil
              go_simp
              refine hRd.mono ?_
              rintro e W3 (⟨rfl, hJ3, hb3, hk3⟩ | ⟨rfl, hX3⟩)
              · refine hK _ _ ?_
                refine wpAnyIn_ready (rs := [9]) (by kernel_rfl) (by simp) ?_
                refine AllReadyIn.cons rfl (fun K hK => ?_) AllReadyIn.nil
                go_simp
                refine hK _ _ ?_
                refine wpAnyIn_ready (rs := [10]) (by kernel_rfl) (by simp) ?_
                refine AllReadyIn.cons rfl (fun K hK => ?_) AllReadyIn.nil
                go_simp
                refine hK _ _ ?_
                refine wpAnyIn_done (by kernel_rfl) ?_ _
                exact HR1.out _ hJ3 hb3 hk3
              · refine hK _ _ ?_
                refine wpAnyIn_ready (rs := [9]) (by kernel_rfl) (by simp) ?_
                refine AllReadyIn.cons rfl (fun K hK => ?_) AllReadyIn.nil
                go_simp
                refine hK _ _ ?_
                refine wpAnyIn_ready (rs := [10]) (by kernel_rfl) (by simp) ?_
                refine AllReadyIn.cons rfl (fun K hK => ?_) AllReadyIn.nil
                go_simp
                refine hK _ _ ?_
                refine wpAnyIn_done (by kernel_rfl) ?_ _
                exact HR2.out _ hX3
            · go_simp
              refine hK _ _ ?_
              refine wpAnyIn_ready (rs := [5]) (by kernel_rfl) (by simp) ?_
              refine AllReadyIn.cons rfl (fun K hK => ?_) AllReadyIn.nil
              go_simp
              refine hK _ _ ?_
              refine wpAnyIn_ready (rs := [7]) (by kernel_rfl) (by simp) ?_
              refine AllReadyIn.cons rfl (fun K hK => ?_) AllReadyIn.nil
              go_simp
              refine hK _ _ ?_
              refine wpAnyIn_ready (rs := [8]) (by kernel_rfl) (by simp) ?_
              refine AllReadyIn.cons rfl (fun K hK => ?_) AllReadyIn.nil
              go_simp
              refine hRd.mono ?_
              rintro e W3 (⟨rfl, hJ3, hb3, hk3⟩ | ⟨rfl, hX3⟩)
              · refine hK _ _ ?_
                refine wpAnyIn_ready (rs := [9]) (by kernel_rfl) (by simp) ?_
                refine AllReadyIn.cons rfl (fun K hK => ?_) AllReadyIn.nil
                go_simp
                refine hK _ _ ?_
                refine wpAnyIn_ready (rs := [10]) (by kernel_rfl) (by simp) ?_
                refine AllReadyIn.cons rfl (fun K hK => ?_) AllReadyIn.nil
                go_simp
                refine hK _ _ ?_
                refine wpAnyIn_done (by kernel_rfl) ?_ _
                exact HR1.out _ hJ3 hb3 hk3
              · refine hK _ _ ?_
                refine wpAnyIn_ready (rs := [9]) (by kernel_rfl) (by simp) ?_
                refine AllReadyIn.cons rfl (fun K hK => ?_) AllReadyIn.nil
                go_simp
                refine hK _ _ ?_
                refine wpAnyIn_ready (rs := [10]) (by kernel_rfl) (by simp) ?_
                refine AllReadyIn.cons rfl (fun K hK => ?_) AllReadyIn.nil
                go_simp
                refine hK _ _ ?_
                refine wpAnyIn_done (by kernel_rfl) ?_ _
                exact HR2.out _ hX3
          · go_simp
            refine hK _ _ ?_
            refine wpAnyIn_ready (rs := [4, 6]) (by kernel_rfl) (by simp) ?_
            refine AllReadyIn.cons rfl (fun K hK => ?_) (AllReadyIn.cons rfl (fun K hK => ?_) AllReadyIn.nil)
            · go_simp
              refine hK _ _ ?_
              refine wpAnyIn_ready (rs := [6]) (by kernel_rfl) (by simp) ?_
              refine AllReadyIn.cons rfl (fun K hK => ?_) AllReadyIn.nil
              go_simp
              refine hK _ _ ?_
              refine wpAnyIn_ready (rs := [7]) (by kernel_rfl) (by simp) ?_
              refine AllReadyIn.cons rfl (fun K hK => ?_) AllReadyIn.nil
              go_simp
              refine hK _ _ ?_
              refine wpAnyIn_ready (rs := [8]) (by kernel_rfl) (by simp) ?_
              refine AllReadyIn.cons rfl (fun K hK => ?_) AllReadyIn.nil
              go_simp
              refine hRd.mono ?_
              rintro e W3 (⟨rfl, hJ3, hb3, hk3⟩ | ⟨rfl, hX3⟩)
              · refine hK _ _ ?_
                refine wpAnyIn_ready (rs := [9]) (by kernel_rfl) (by simp) ?_
                refine AllReadyIn.cons rfl (fun K hK => ?_) AllReadyIn.nil
                go_simp
                refine hK _ _ ?_
                refine wpAnyIn_ready (rs := [10]) (by kernel_rfl) (by simp) ?_
                refine AllReadyIn.cons rfl (fun K hK => ?_) AllReadyIn.nil
                go_simp
                refine hK _ _ ?_
                refine wpAnyIn_done (by kernel_rfl) ?_ _
                exact HR1.out _ hJ3 hb3 hk3
              · refine hK _ _ ?_
                refine wpAnyIn_ready (rs := [9]) (by kernel_rfl) (by simp) ?_
                refine AllReadyIn.cons rfl (fun K hK => ?_) AllReadyIn.nil
                go_simp
                refine hK _ _ ?_
                refine wpAnyIn_ready (rs := [10]) (by kernel_rfl) (by simp) ?_
                refine AllReadyIn.cons rfl (fun K hK => ?_) AllReadyIn.nil
                go_simp
                refine hK _ _ ?_
                refine wpAnyIn_done (by kernel_rfl) ?_ _
                exact HR2.out _ hX3
            · go_simp
              refine hK _ _ ?_
              refine wpAnyIn_ready (rs := [4, 7]) (by kernel_rfl) (by simp) ?_
              refine AllReadyIn.cons rfl (fun K hK => ?_) (AllReadyIn.cons rfl (fun K hK => ?_) AllReadyIn.nil)
              · go_simp
                refine hK _ _ ?_
                refine wpAnyIn_ready (rs := [7]) (by kernel_rfl) (by simp) ?_
                refine AllReadyIn.cons rfl (fun K hK => ?_) AllReadyIn.nil
                go_simp
                refine hK _ _ ?_
                refine wpAnyIn_ready (rs := [8]) (by kernel_rfl) (by simp) ?_
                refine AllReadyIn.cons rfl (fun K hK => ?_) AllReadyIn.nil
                go_simp
                refine hRd.mono ?_
                rintro e W3 (⟨rfl, hJ3, hb3, hk3⟩ | ⟨rfl, hX3⟩)
                · refine hK _ _ ?_
                  refine wpAnyIn_ready (rs := [9]) (by kernel_rfl) (by simp) ?_
                  refine AllReadyIn.cons rfl (fun K hK => ?_) AllReadyIn.nil
                  go_simp
                  refine hK _ _ ?_
                  refine wpAnyIn_ready (rs := [10]) (by kernel_rfl) (by simp) ?_
                  refine AllReadyIn.cons rfl (fun K hK => ?_) AllReadyIn.nil
                  go_simp
                  refine hK _ _ ?_
                  refine wpAnyIn_done (by kernel_rfl) ?_ _
                  exact HR1.out _ hJ3 hb3 hk3
                · refine hK _ _ ?_
                  refine wpAnyIn_ready (rs := [9]) (by kernel_rfl) (by simp) ?_
                  refine AllReadyIn.cons rfl (fun K hK => ?_) AllReadyIn.nil
                  go_simp
                  refine hK _ _ ?_
                  refine wpAnyIn_ready (rs := [10]) (by kernel_rfl) (by simp) ?_
                  refine AllReadyIn.cons rfl (fun K hK => ?_) AllReadyIn.nil
                  go_simp
                  refine hK _ _ ?_
                  refine wpAnyIn_done (by kernel_rfl) ?_ _
                  exact HR2.out _ hX3
              · go_simp
                refine hK _ _ ?_
                refine wpAnyIn_ready (rs := [4]) (by kernel_rfl) (by simp) ?_
                refine AllReadyIn.cons rfl (fun K hK => ?_) AllReadyIn.nil
                go_simp
                refine hK _ _ ?_
                refine wpAnyIn_ready (rs := [8]) (by kernel_rfl) (by simp) ?_
                refine AllReadyIn.cons rfl (fun K hK => ?_) AllReadyIn.nil
                go_simp
                refine hRd.mono ?_
                rintro e W3 (⟨rfl, hJ3, hb3, hk3⟩ | ⟨rfl, hX3⟩)
                · refine hK _ _ ?_
                  refine wpAnyIn_ready (rs := [9]) (by kernel_rfl) (by simp) ?_
                  refine AllReadyIn.cons rfl (fun K hK => ?_) AllReadyIn.nil
                  go_simp
                  refine hK _ _ ?_
                  refine wpAnyIn_ready (rs := [10]) (by kernel_rfl) (by simp) ?_
                  refine AllReadyIn.cons rfl (fun K hK => ?_) AllReadyIn.nil
                  go_simp
                  refine hK _ _ ?_
                  refine wpAnyIn_done (by kernel_rfl) ?_ _
                  exact HR1.out _ hJ3 hb3 hk3
                · refine hK _ _ ?_
                  refine wpAnyIn_ready (rs := [9]) (by kernel_rfl) (by simp) ?_
                  refine AllReadyIn.cons rfl (fun K hK => ?_) AllReadyIn.nil
                  go_simp
                  refine hK _ _ ?_
                  refine wpAnyIn_ready (rs := [10]) (by kernel_rfl) (by simp) ?_
                  refine AllReadyIn.cons rfl (fun K hK => ?_) AllReadyIn.nil
                  go_simp
                  refine hK _ _ ?_
                  refine wpAnyIn_done (by kernel_rfl) ?_ _
                  exact HR2.out _ hX3
          · go_simp
            refine hK _ _ ?_
            refine wpAnyIn_ready (rs := [4, 5]) (by kernel_rfl) (by simp) ?_
            refine AllReadyIn.cons rfl (fun K hK => ?_) (AllReadyIn.cons rfl (fun K hK => ?_) AllReadyIn.nil)
            · go_simp
              refine hK _ _ ?_
              refine wpAnyIn_ready (rs := [5]) (by kernel_rfl) (by simp) ?_
              refine AllReadyIn.cons rfl (fun K hK => ?_) AllReadyIn.nil
              go_simp
              refine hK _ _ ?_
              refine wpAnyIn_ready (rs := [7]) (by kernel_rfl) (by simp) ?_
              refine AllReadyIn.cons rfl (fun K hK => ?_) AllReadyIn.nil
              go_simp
              refine hK _ _ ?_
              refine wpAnyIn_ready (rs := [8]) (by kernel_rfl) (by simp) ?_
              refine AllReadyIn.cons rfl (fun K hK => ?_) AllReadyIn.nil
              go_simp
              refine hRd.mono ?_
              rintro e W3 (⟨rfl, hJ3, hb3, hk3⟩ | ⟨rfl, hX3⟩)
              · refine hK _ _ ?_
                refine wpAnyIn_ready (rs := [9]) (by kernel_rfl) (by simp) ?_
                refine AllReadyIn.cons rfl (fun K hK => ?_) AllReadyIn.nil
                go_simp
                refine hK _ _ ?_
                refine wpAnyIn_ready (rs := [10]) (by kernel_rfl) (by simp) ?_
                refine AllReadyIn.cons rfl (fun K hK => ?_) AllReadyIn.nil
                go_simp
                refine hK _ _ ?_
                refine wpAnyIn_done (by kernel_rfl) ?_ _
                exact HR1.out _ hJ3 hb3 hk3
              · refine hK _ _ ?_
                refine wpAnyIn_ready (rs := [9]) (by kernel_rfl) (by simp) ?_
                refine AllReadyIn.cons rfl (fun K hK => ?_) AllReadyIn.nil
                go_simp
                refine hK _ _ ?_
                refine wpAnyIn_ready (rs := [10]) (by kernel_rfl) (by simp) ?_
                refine AllReadyIn.cons rfl (fun K hK => ?_) AllReadyIn.nil
                go_simp
                refine hK _ _ ?_
                refine wpAnyIn_done (by kernel_rfl) ?_ _
                exact HR2.out _ hX3
            · go_simp
              refine hK _ _ ?_
              refine wpAnyIn_ready (rs := [4, 7]) (by kernel_rfl) (by simp) ?_
              refine AllReadyIn.cons rfl (fun K hK => ?_) (AllReadyIn.cons rfl (fun K hK => ?_) AllReadyIn.nil)
              · go_simp
                refine hK _ _ ?_
                refine wpAnyIn_ready (rs := [7]) (by kernel_rfl) (by simp) ?_
                refine AllReadyIn.cons rfl (fun K hK => ?_) AllReadyIn.nil
                go_simp
                refine hK _ _ ?_
                refine wpAnyIn_ready (rs := [8]) (by kernel_rfl) (by simp) ?_
                refine AllReadyIn.cons rfl (fun K hK => ?_) AllReadyIn.nil
                go_simp
                refine hRd.mono ?_
                rintro e W3 (⟨rfl, hJ3, hb3, hk3⟩ | ⟨rfl, hX3⟩)
                · refine hK _ _ ?_
                  refine wpAnyIn_ready (rs := [9]) (by kernel_rfl) (by simp) ?_
                  refine AllReadyIn.cons rfl (fun K hK => ?_) AllReadyIn.nil
                  go_simp
                  refine hK _ _ ?_
                  refine wpAnyIn_ready (rs := [10]) (by kernel_rfl) (by simp) ?_
                  refine AllReadyIn.cons rfl (fun K hK => ?_) AllReadyIn.nil
                  go_simp
                  refine hK _ _ ?_
                  refine wpAnyIn_done (by kernel_rfl) ?_ _
                  exact HR1.out _ hJ3 hb3 hk3
                · refine hK _ _ ?_
                  refine wpAnyIn_ready (rs := [9]) (by kernel_rfl) (by simp) ?_
                  refine AllReadyIn.cons rfl (fun K hK => ?_) AllReadyIn.nil
                  go_simp
                  refine hK _ _ ?_
                  refine wpAnyIn_ready (rs := [10]) (by kernel_rfl) (by simp) ?_
                  refine AllReadyIn.cons rfl (fun K hK => ?_) AllReadyIn.nil
                  go_simp
                  refine hK _ _ ?_
                  refine wpAnyIn_done (by kernel_rfl) ?_ _
                  exact HR2.out _ hX3
              · go_simp
                refine hK _ _ ?_
                refine wpAnyIn_ready (rs := [4]) (by kernel_rfl) (by simp) ?_
                refine AllReadyIn.cons rfl (fun K hK => ?_) AllReadyIn.nil
                go_simp
                refine hK _ _ ?_
                refine wpAnyIn_ready (rs := [8]) (by kernel_rfl) (by simp) ?_
                refine AllReadyIn.cons rfl (fun K hK => ?_) AllReadyIn.nil
                go_simp
                refine hRd.mono ?_
                rintro e W3 (⟨rfl, hJ3, hb3, hk3⟩ | ⟨rfl, hX3⟩)
                · refine hK _ _ ?_
                  refine wpAnyIn_ready (rs := [9]) (by kernel_rfl) (by simp) ?_
                  refine AllReadyIn.cons rfl (fun K hK => ?_) AllReadyIn.nil
                  go_simp
                  refine hK _ _ ?_
                  refine wpAnyIn_ready (rs := [10]) (by kernel_rfl) (by simp) ?_
                  refine AllReadyIn.cons rfl (fun K hK => ?_) AllReadyIn.nil
                  go_simp
                  refine hK _ _ ?_
                  refine wpAnyIn_done (by kernel_rfl) ?_ _
                  exact HR1.out _ hJ3 hb3 hk3
                · refine hK _ _ ?_
                  refine wpAnyIn_ready (rs := [9]) (by kernel_rfl) (by simp) ?_
                  refine AllReadyIn.cons rfl (fun K hK => ?_) AllReadyIn.nil
                  go_simp
                  refine hK _ _ ?_
                  refine wpAnyIn_ready (rs := [10]) (by kernel_rfl) (by simp) ?_
                  refine AllReadyIn.cons rfl (fun K hK => ?_) AllReadyIn.nil
                  go_simp
                  refine hK _ _ ?_
                  refine wpAnyIn_done (by kernel_rfl) ?_ _
                  exact HR2.out _ hX3
        · go_simp
          refine hK _ _ ?_
          refine wpAnyIn_ready (rs := [3, 5, 6]) (by kernel_rfl) (by simp) ?_
          refine AllReadyIn.cons rfl (fun K hK => ?_) (AllReadyIn.cons rfl (fun K hK => ?_) (AllReadyIn.cons rfl (fun K hK => ?_) AllReadyIn.nil))
          · go_simp
            refine hK _ _ ?_
            refine wpAnyIn_ready (rs := [5, 6]) (by kernel_rfl) (by simp) ?_
            refine AllReadyIn.cons rfl (fun K hK => ?_) (AllReadyIn.cons rfl (fun K hK => ?_) AllReadyIn.nil)
            · go_simp
              refine hK _ _ ?_
              refine wpAnyIn_ready (rs := [6]) (by kernel_rfl) (by simp) ?_
              refine AllReadyIn.cons rfl (fun K hK => ?_) AllReadyIn.nil
              go_simp
              refine hK _ _ ?_
              refine wpAnyIn_ready (rs := [7]) (by kernel_rfl) (by simp) ?_
              refine AllReadyIn.cons rfl (fun K hK => ?_) AllReadyIn.nil
              go_simp
              refine hK _ _ ?_
              refine wpAnyIn_ready (rs := [8]) (by kernel_rfl) (by simp) ?_
              refine AllReadyIn.cons rfl (fun K hK => ?_) AllReadyIn.nil
              go_simp
              refine hRd.mono ?_
              rintro e W3 (⟨rfl, hJ3, hb3, hk3⟩ | ⟨rfl, hX3⟩)
              · refine hK _ _ ?_
                refine wpAnyIn_ready (rs := [9]) (by kernel_rfl) (by simp) ?_
                refine AllReadyIn.cons rfl (fun K hK => ?_) AllReadyIn.nil
                go_simp
                refine hK _ _ ?_
                refine wpAnyIn_ready (rs := [10]) (by kernel_rfl) (by simp) ?_
                refine AllReadyIn.cons rfl (fun K hK => ?_) AllReadyIn.nil
                go_simp
                refine hK _ _ ?_
                refine wpAnyIn_done (by kernel_rfl) ?_ _
                exact HR1.out _ hJ3 hb3 hk3
              · refine hK _ _ ?_
                refine wpAnyIn_ready (rs := [9]) (by kernel_rfl) (by simp) ?_
                refine AllReadyIn.cons rfl (fun K hK => ?_) AllReadyIn.nil
                go_simp
                refine hK _ _ ?_
                refine wpAnyIn_ready (rs := [10]) (by kernel_rfl) (by simp) ?_
                refine AllReadyIn.cons rfl (fun K hK => ?_) AllReadyIn.nil
                go_simp
                refine hK _ _ ?_
                refine wpAnyIn_done (by kernel_rfl) ?_ _
                exact HR2.out _ hX3
            · go_simp
              refine hK _ _ ?_
              refine wpAnyIn_ready (rs := [5]) (by kernel_rfl) (by simp) ?_
              refine AllReadyIn.cons rfl (fun K hK => ?_) AllReadyIn.nil
              go_simp
              refine hK _ _ ?_
              refine wpAnyIn_ready (rs := [7]) (by kernel_rfl) (by simp) ?_
              refine AllReadyIn.cons rfl (fun K hK => ?_) AllReadyIn.nil
              go_simp
              refine hK _ _ ?_
              refine wpAnyIn_ready (rs := [8]) (by kernel_rfl) (by simp) ?_
              refine AllReadyIn.cons rfl (fun K hK => ?_) AllReadyIn.nil
              go_simp
              refine hRd.mono ?_
              rintro e W3 (⟨rfl, hJ3, hb3, hk3⟩ | ⟨rfl, hX3⟩)
              · refine hK _ _ ?_
                refine wpAnyIn_ready (rs := [9]) (by kernel_rfl) (by simp) ?_
                refine AllReadyIn.cons rfl (fun K hK => ?_) AllReadyIn.nil
                go_simp
                refine hK _ _ ?_
                refine wpAnyIn_ready (rs := [10]) (by kernel_rfl) (by simp) ?_
                refine AllReadyIn.cons rfl (fun K hK => ?_) AllReadyIn.nil
                go_simp
                refine hK _ _ ?_
                refine wpAnyIn_done (by kernel_rfl) ?_ _
                exact HR1.out _ hJ3 hb3 hk3
              · refine hK _ _ ?_
                refine wpAnyIn_ready (rs := [9]) (by kernel_rfl) (by simp) ?_
                refine AllReadyIn.cons rfl (fun K hK => ?_) AllReadyIn.nil
                go_simp
                refine hK _ _ ?_
                refine wpAnyIn_ready (rs := [10]) (by kernel_rfl) (by simp) ?_
                refine AllReadyIn.cons rfl (fun K hK => ?_) AllReadyIn.nil
                go_simp
                refine hK _ _ ?_
                refine wpAnyIn_done (by kernel_rfl) ?_ _
                exact HR2.out _ hX3
          · go_simp
            refine hK _ _ ?_
            refine wpAnyIn_ready (rs := [3, 6]) (by kernel_rfl) (by simp) ?_
            refine AllReadyIn.cons rfl (fun K hK => ?_) (AllReadyIn.cons rfl (fun K hK => ?_) AllReadyIn.nil)
            · go_simp
              refine hK _ _ ?_
              refine wpAnyIn_ready (rs := [6]) (by kernel_rfl) (by simp) ?_
              refine AllReadyIn.cons rfl (fun K hK => ?_) AllReadyIn.nil
              go_simp
              refine hK _ _ ?_
              refine wpAnyIn_ready (rs := [7]) (by kernel_rfl) (by simp) ?_
              refine AllReadyIn.cons rfl (fun K hK => ?_) AllReadyIn.nil
              go_simp
              refine hK _ _ ?_
              refine wpAnyIn_ready (rs := [8]) (by kernel_rfl) (by simp) ?_
              refine AllReadyIn.cons rfl (fun K hK => ?_) AllReadyIn.nil
              go_simp
              refine hRd.mono ?_
              rintro e W3 (⟨rfl, hJ3, hb3, hk3⟩ | ⟨rfl, hX3⟩)
              · refine hK _ _ ?_
                refine wpAnyIn_ready (rs := [9]) (by kernel_rfl) (by simp) ?_
                refine AllReadyIn.cons rfl (fun K hK => ?_) AllReadyIn.nil
                go_simp
                refine hK _ _ ?_
                refine wpAnyIn_ready (rs := [10]) (by kernel_rfl) (by simp) ?_
                refine AllReadyIn.cons rfl (fun K hK => ?_) AllReadyIn.nil
                go_simp
                refine hK _ _ ?_
                refine wpAnyIn_done (by kernel_rfl) ?_ _
                exact HR1.out _ hJ3 hb3 hk3
              · refine hK _ _ ?_
                refine wpAnyIn_ready (rs := [9]) (by kernel_rfl) (by simp) ?_
                refine AllReadyIn.cons rfl (fun K hK => ?_) AllReadyIn.nil
                go_simp
                refine hK _ _ ?_
                refine wpAnyIn_ready (rs := [10]) (by kernel_rfl) (by simp) ?_
                refine AllReadyIn.cons rfl (fun K hK => ?_) AllReadyIn.nil
                go_simp
                refine hK _ _ ?_
                refine wpAnyIn_done (by kernel_rfl) ?_ _
                exact HR2.out _ hX3
            · go_simp
              refine hK _ _ ?_
              refine wpAnyIn_ready (rs := [3, 7]) (by kernel_rfl) (by simp) ?_
              refine AllReadyIn.cons rfl (fun K hK => ?_) (AllReadyIn.cons rfl (fun K hK => ?_) AllReadyIn.nil)
              · go_simp
                refine hK _ _ ?_
                refine wpAnyIn_ready (rs := [7]) (by kernel_rfl) (by simp) ?_
                refine AllReadyIn.cons rfl (fun K hK => ?_) AllReadyIn.nil
                go_simp
                refine hK _ _ ?_
                refine wpAnyIn_ready (rs := [8]) (by kernel_rfl) (by simp) ?_
                refine AllReadyIn.cons rfl (fun K hK => ?_) AllReadyIn.nil
                go_simp
                refine hRd.mono ?_
                rintro e W3 (⟨rfl, hJ3, hb3, hk3⟩ | ⟨rfl, hX3⟩)
                · refine hK _ _ ?_
                  refine wpAnyIn_ready (rs := [9]) (by kernel_rfl) (by simp) ?_
                  refine AllReadyIn.cons rfl (fun K hK => ?_) AllReadyIn.nil
                  go_simp
                  refine hK _ _ ?_
                  refine wpAnyIn_ready (rs := [10]) (by kernel_rfl) (by simp) ?_
                  refine AllReadyIn.cons rfl (fun K hK => ?_) AllReadyIn.nil
                  go_simp
                  refine hK _ _ ?_
                  refine wpAnyIn_done (by kernel_rfl) ?_ _
                  exact HR1.out _ hJ3 hb3 hk3
                · refine hK _ _ ?_
                  refine wpAnyIn_ready (rs := [9]) (by kernel_rfl) (by simp) ?_
                  refine AllReadyIn.cons rfl (fun K hK => ?_) AllReadyIn.nil
                  go_simp
                  refine hK _ _ ?_
                  refine wpAnyIn_ready (rs := [10]) (by kernel_rfl) (by simp) ?_
                  refine AllReadyIn.cons rfl (fun K hK => ?_) AllReadyIn.nil
                  go_simp
                  refine hK _ _ ?_
                  refine wpAnyIn_done (by kernel_rfl) ?_ _
                  exact HR2.out _ hX3
              · go_simp
                refine hK _ _ ?_
                refine wpAnyIn_ready (rs := [3]) (by kernel_rfl) (by simp) ?_
                refine AllReadyIn.cons rfl (fun K hK => ?_) AllReadyIn.nil
                go_simp
                refine hK _ _ ?_
                refine wpAnyIn_ready (rs := [8]) (by kernel_rfl) (by simp) ?_
                refine AllReadyIn.cons rfl (fun K hK => ?_) AllReadyIn.nil
                go_simp
                refine hRd.mono ?_
                rintro e W3 (⟨rfl, hJ3, hb3, hk3⟩ | ⟨rfl, hX3⟩)
                · refine hK _ _ ?_
                  refine wpAnyIn_ready (rs := [9]) (by kernel_rfl) (by simp) ?_
                  refine AllReadyIn.cons rfl (fun K hK => ?_) AllReadyIn.nil
                  go_simp
                  refine hK _ _ ?_
                  refine wpAnyIn_ready (rs := [10]) (by kernel_rfl) (by simp) ?_
                  refine AllReadyIn.cons rfl (fun K hK => ?_) AllReadyIn.nil
                  go_simp
                  refine hK _ _ ?_
                  refine wpAnyIn_done (by kernel_rfl) ?_ _
                  exact HR1.out _ hJ3 hb3 hk3
                · refine hK _ _ ?_
                  refine wpAnyIn_ready (rs := [9]) (by kernel_rfl) (by simp) ?_
                  refine AllReadyIn.cons rfl (fun K hK => ?_) AllReadyIn.nil
                  go_simp
                  refine hK _ _ ?_
                  refine wpAnyIn_ready (rs := [10]) (by kernel_rfl) (by simp) ?_
                  refine AllReadyIn.cons rfl (fun K hK => ?_) AllReadyIn.nil
                  go_simp
                  refine hK _ _ ?_
                  refine wpAnyIn_done (by kernel_rfl) ?_ _
                  exact HR2.out _ hX3
          · go_simp
            refine hK _ _ ?_
            refine wpAnyIn_ready (rs := [3, 5]) (by kernel_rfl) (by simp) ?_
            refine AllReadyIn.cons rfl (fun K hK => ?_) (AllReadyIn.cons rfl (fun K hK => ?_) AllReadyIn.nil)
            · go_simp
              refine hK _ _ ?_
              refine wpAnyIn_ready (rs := [5]) (by kernel_rfl) (by simp) ?_
              refine AllReadyIn.cons rfl (fun K hK => ?_) AllReadyIn.nil
              go_simp
              refine hK _ _ ?_
              refine wpAnyIn_ready (rs := [7]) (by kernel_rfl) (by simp) ?_
              refine AllReadyIn.cons rfl (fun K hK => ?_) AllReadyIn.nil
              go_simp
              refine hK _ _ ?_
              refine wpAnyIn_ready (rs := [8]) (by kernel_rfl) (by simp) ?_
              refine AllReadyIn.cons rfl (fun K hK => ?_) AllReadyIn.nil
              go_simp
              refine hRd.mono ?_
              rintro e W3 (⟨rfl, hJ3, hb3, hk3⟩ | ⟨rfl, hX3⟩)
              · refine hK _ _ ?_
                refine wpAnyIn_ready (rs := [9]) (by kernel_rfl) (by simp) ?_
                refine AllReadyIn.cons rfl (fun K hK => ?_) AllReadyIn.nil
                go_simp
                refine hK _ _ ?_
                refine wpAnyIn_ready (rs := [10]) (by kernel_rfl) (by simp) ?_
                refine AllReadyIn.cons rfl (fun K hK => ?_) AllReadyIn.nil
                go_simp
                refine hK _ _ ?_
                refine wpAnyIn_done (by kernel_rfl) ?_ _
                exact HR1.out _ hJ3 hb3 hk3
              · refine hK _ _ ?_
                refine wpAnyIn_ready (rs := [9]) (by kernel_rfl) (by simp) ?_
                refine AllReadyIn.cons rfl (fun K hK => ?_) AllReadyIn.nil
                go_simp
                refine hK _ _ ?_
                refine wpAnyIn_ready (rs := [10]) (by kernel_rfl) (by simp) ?_
                refine AllReadyIn.cons rfl (fun K hK => ?_) AllReadyIn.nil
                go_simp
                refine hK _ _ ?_
                refine wpAnyIn_done (by kernel_rfl) ?_ _
                exact HR2.out _ hX3
            · go_simp
              refine hK _ _ ?_
              refine wpAnyIn_ready (rs := [3, 7]) (by kernel_rfl) (by simp) ?_
              refine AllReadyIn.cons rfl (fun K hK => ?_) (AllReadyIn.cons rfl (fun K hK => ?_) AllReadyIn.nil)
              · go_simp
                refine hK _ _ ?_
                refine wpAnyIn_ready (rs := [7]) (by kernel_rfl) (by simp) ?_
                refine AllReadyIn.cons rfl (fun K hK => ?_) AllReadyIn.nil
                go_simp
                refine hK _ _ ?_
                refine wpAnyIn_ready (rs := [8]) (by kernel_rfl) (by simp) ?_
                refine AllReadyIn.cons rfl (fun K hK => ?_) AllReadyIn.nil
                go_simp
                refine hRd.mono ?_
                rintro e W3 (⟨rfl, hJ3, hb3, hk3⟩ | ⟨rfl, hX3⟩)
                · refine hK _ _ ?_
                  refine wpAnyIn_ready (rs := [9]) (by kernel_rfl) (by simp) ?_
                  refine AllReadyIn.cons rfl (fun K hK => ?_) AllReadyIn.nil
                  go_simp
                  refine hK _ _ ?_
                  refine wpAnyIn_ready (rs := [10]) (by kernel_rfl) (by simp) ?_
                  refine AllReadyIn.cons rfl (fun K hK => ?_) AllReadyIn.nil
                  go_simp
                  refine hK _ _ ?_
                  refine wpAnyIn_done (by kernel_rfl) ?_ _
                  exact HR1.out _ hJ3 hb3 hk3
                · refine hK _ _ ?_
                  refine wpAnyIn_ready (rs := [9]) (by kernel_rfl) (by simp) ?_
                  refine AllReadyIn.cons rfl (fun K hK => ?_) AllReadyIn.nil
                  go_simp
                  refine hK _ _ ?_
                  refine wpAnyIn_ready (rs := [10]) (by kernel_rfl) (by simp) ?_
                  refine AllReadyIn.cons rfl (fun K hK => ?_) AllReadyIn.nil
                  go_simp
                  refine hK _ _ ?_
                  refine wpAnyIn_done (by kernel_rfl) ?_ _
                  exact HR2.out _ hX3
              · go_simp
                refine hK _ _ ?_
                refine wpAnyIn_ready (rs := [3]) (by kernel_rfl) (by simp) ?_
                refine AllReadyIn.cons rfl (fun K hK => ?_) AllReadyIn.nil
                go_simp
                refine hK _ _ ?_
                refine wpAnyIn_ready (rs := [8]) (by kernel_rfl) (by simp) ?_
                refine AllReadyIn.cons rfl (fun K hK => ?_) AllReadyIn.nil
                go_simp
                refine hRd.mono ?_
                rintro e W3 (⟨rfl, hJ3, hb3, hk3⟩ | ⟨rfl, hX3⟩)
                · refine hK _ _ ?_
                  refine wpAnyIn_ready (rs := [9]) (by kernel_rfl) (by simp) ?_
                  refine AllReadyIn.cons rfl (fun K hK => ?_) AllReadyIn.nil
                  go_simp
                  refine hK _ _ ?_
                  refine wpAnyIn_ready (rs := [10]) (by kernel_rfl) (by simp) ?_
                  refine AllReadyIn.cons rfl (fun K hK => ?_) AllReadyIn.nil
                  go_simp
                  refine hK _ _ ?_
                  refine wpAnyIn_done (by kernel_rfl) ?_ _
                  exact HR1.out _ hJ3 hb3 hk3
                · refine hK _ _ ?_
                  refine wpAnyIn_ready (rs := [9]) (by kernel_rfl) (by simp) ?_
                  refine AllReadyIn.cons rfl (fun K hK => ?_) AllReadyIn.nil
                  go_simp
                  refine hK _ _ ?_
                  refine wpAnyIn_ready (rs := [10]) (by kernel_rfl) (by simp) ?_
                  refine AllReadyIn.cons rfl (fun K hK => ?_) AllReadyIn.nil
                  go_simp
                  refine hK _ _ ?_
                  refine wpAnyIn_done (by kernel_rfl) ?_ _
                  exact HR2.out _ hX3
        · go_simp
          refine hK _ _ ?_
          refine wpAnyIn_ready (rs := [3, 4, 6]) (by kernel_rfl) (by simp) ?_
          refine AllReadyIn.cons rfl (fun K hK => ?_) (AllReadyIn.cons rfl (fun K hK => ?_) (AllReadyIn.cons rfl (fun K hK => ?_) AllReadyIn.nil))
          · go_simp
            refine hK _ _ ?_
            refine wpAnyIn_ready (rs := [4, 6]) (by kernel_rfl) (by simp) ?_
            refine AllReadyIn.cons rfl (fun K hK => ?_) (AllReadyIn.cons rfl (fun K hK => ?_) AllReadyIn.nil)
            · go_simp
              refine hK _ _ ?_
              refine wpAnyIn_ready (rs := [6]) (by kernel_rfl) (by simp) ?_
              refine AllReadyIn.cons rfl (fun K hK => ?_) AllReadyIn.nil
              go_simp
              refine hK _ _ ?_
              refine wpAnyIn_ready (rs := [7]) (by kernel_rfl) (by simp) ?_
              refine AllReadyIn.cons rfl (fun K hK => ?_) AllReadyIn.nil
              go_simp
              refine hK _ _ ?_
              refine wpAnyIn_ready (rs := [8]) (by kernel_rfl) (by simp) ?_
              refine AllReadyIn.cons rfl (fun K hK => ?_) AllReadyIn.nil
              go_simp
              refine hRd.mono ?_
              rintro e W3 (⟨rfl, hJ3, hb3, hk3⟩ | ⟨rfl, hX3⟩)
              · refine hK _ _ ?_
                refine wpAnyIn_ready (rs := [9]) (by kernel_rfl) (by simp) ?_
                refine AllReadyIn.cons rfl (fun K hK => ?_) AllReadyIn.nil
                go_simp
                refine hK _ _ ?_
                refine wpAnyIn_ready (rs := [10]) (by kernel_rfl) (by simp) ?_
                refine AllReadyIn.cons rfl (fun K hK => ?_) AllReadyIn.nil
                go_simp
                refine hK _ _ ?_
                refine wpAnyIn_done (by kernel_rfl) ?_ _
                exact HR1.out _ hJ3 hb3 hk3
              · refine hK _ _ ?_
                refine wpAnyIn_ready (rs := [9]) (by kernel_rfl) (by simp) ?_
                refine AllReadyIn.cons rfl (fun K hK => ?_) AllReadyIn.nil
                go_simp
                refine hK _ _ ?_
                refine wpAnyIn_ready (rs := [10]) (by kernel_rfl) (by simp) ?_
                refine AllReadyIn.cons rfl (fun K hK => ?_) AllReadyIn.nil
                go_simp
                refine hK _ _ ?_
                refine wpAnyIn_done (by kernel_rfl) ?_ _
                exact HR2.out _ hX3
            · go_simp
              refine hK _ _ ?_
              refine wpAnyIn_ready (rs := [4, 7]) (by kernel_rfl) (by simp) ?_
              refine AllReadyIn.cons rfl (fun K hK => ?_) (AllReadyIn.cons rfl (fun K hK => ?_) AllReadyIn.nil)
              · go_simp
                refine hK _ _ ?_
                refine wpAnyIn_ready (rs := [7]) (by kernel_rfl) (by simp) ?_
                refine AllReadyIn.cons rfl (fun K hK => ?_) AllReadyIn.nil
                go_simp
                refine hK _ _ ?_
                refine wpAnyIn_ready (rs := [8]) (by kernel_rfl) (by simp) ?_
                refine AllReadyIn.cons rfl (fun K hK => ?_) AllReadyIn.nil
                go_simp
                refine hRd.mono ?_
                rintro e W3 (⟨rfl, hJ3, hb3, hk3⟩ | ⟨rfl, hX3⟩)
                · refine hK _ _ ?_
                  refine wpAnyIn_ready (rs := [9]) (by kernel_rfl) (by simp) ?_
                  refine AllReadyIn.cons rfl (fun K hK => ?_) AllReadyIn.nil
                  go_simp
                  refine hK _ _ ?_
                  refine wpAnyIn_ready (rs := [10]) (by kernel_rfl) (by simp) ?_
                  refine AllReadyIn.cons rfl (fun K hK => ?_) AllReadyIn.nil
                  go_simp
                  refine hK _ _ ?_
                  refine wpAnyIn_done (by kernel_rfl) ?_ _
                  exact HR1.out _ hJ3 hb3 hk3
                · refine hK _ _ ?_
                  refine wpAnyIn_ready (rs := [9]) (by kernel_rfl) (by simp) ?_
                  refine AllReadyIn.cons rfl (fun K hK => ?_) AllReadyIn.nil
                  go_simp
                  refine hK _ _ ?_
                  refine wpAnyIn_ready (rs := [10]) (by kernel_rfl) (by simp) ?_
                  refine AllReadyIn.cons rfl (fun K hK => ?_) AllReadyIn.nil
                  go_simp
                  refine hK _ _ ?_
                  refine wpAnyIn_done (by kernel_rfl) ?_ _
                  exact HR2.out _ hX3
              · go_simp
                refine hK _ _ ?_
                refine wpAnyIn_ready (rs := [4]) (by kernel_rfl) (by simp) ?_
                refine AllReadyIn.cons rfl (fun K hK => ?_) AllReadyIn.nil
                go_simp
                refine hK _ _ ?_
                refine wpAnyIn_ready (rs := [8]) (by kernel_rfl) (by simp) ?_
                refine AllReadyIn.cons rfl (fun K hK => ?_) AllReadyIn.nil
                go_simp
                refine hRd.mono ?_
                rintro e W3 (⟨rfl, hJ3, hb3, hk3⟩ | ⟨rfl, hX3⟩)
                · refine hK _ _ ?_
                  refine wpAnyIn_ready (rs := [9]) (by kernel_rfl) (by simp) ?_
                  refine AllReadyIn.cons rfl (fun K hK => ?_) AllReadyIn.nil
                  go_simp
                  refine hK _ _ ?_
                  refine wpAnyIn_ready (rs := [10]) (by kernel_rfl) (by simp) ?_
                  refine AllReadyIn.cons rfl (fun K hK => ?_) AllReadyIn.nil
                  go_simp
                  refine hK _ _ ?_
                  refine wpAnyIn_done (by kernel_rfl) ?_ _
                  exact HR1.out _ hJ3 hb3 hk3
                · refine hK _ _ ?_
                  refine wpAnyIn_ready (rs := [9]) (by kernel_rfl) (by simp) ?_
                  refine AllReadyIn.cons rfl (fun K hK => ?_) AllReadyIn.nil
                  go_simp
                  refine hK _ _ ?_
                  refine wpAnyIn_ready (rs := [10]) (by kernel_rfl) (by simp) ?_
                  refine AllReadyIn.cons rfl (fun K hK => ?_) AllReadyIn.nil
                  go_simp
                  refine hK _ _ ?_
                  refine wpAnyIn_done (by kernel_rfl) ?_ _
                  exact HR2.out _ hX3
          · go_simp
            refine hK _ _ ?_
            refine wpAnyIn_ready (rs := [3, 6]) (by kernel_rfl) (by simp) ?_
            refine AllReadyIn.cons rfl (fun K hK => ?_) (AllReadyIn.cons rfl (fun K hK => ?_) AllReadyIn.nil)
            · go_simp
              refine hK _ _ ?_
              refine wpAnyIn_ready (rs := [6]) (by kernel_rfl) (by simp) ?_
              refine AllReadyIn.cons rfl (fun K hK => ?_) AllReadyIn.nil
              go_simp
              refine hK _ _ ?_
              refine wpAnyIn_ready (rs := [7]) (by kernel_rfl) (by simp) ?_
              refine AllReadyIn.cons rfl (fun K hK => ?_) AllReadyIn.nil
              go_simp
              refine hK _ _ ?_
              refine wpAnyIn_ready (rs := [8]) (by kernel_rfl) (by simp) ?_
              refine AllReadyIn.cons rfl (fun K hK => ?_) AllReadyIn.nil
              go_simp
              refine hRd.mono ?_
              rintro e W3 (⟨rfl, hJ3, hb3, hk3⟩ | ⟨rfl, hX3⟩)
              · refine hK _ _ ?_
                refine wpAnyIn_ready (rs := [9]) (by kernel_rfl) (by simp) ?_
                refine AllReadyIn.cons rfl (fun K hK => ?_) AllReadyIn.nil
                go_simp
                refine hK _ _ ?_
                refine wpAnyIn_ready (rs := [10]) (by kernel_rfl) (by simp) ?_
                refine AllReadyIn.cons rfl (fun K hK => ?_) AllReadyIn.nil
                go_simp
                refine hK _ _ ?_
                refine wpAnyIn_done (by kernel_rfl) ?_ _
                exact HR1.out _ hJ3 hb3 hk3
              · refine hK _ _ ?_
                refine wpAnyIn_ready (rs := [9]) (by kernel_rfl) (by simp) ?_
                refine AllReadyIn.cons rfl (fun K hK => ?_) AllReadyIn.nil
                go_simp
                refine hK _ _ ?_
                refine wpAnyIn_ready (rs := [10]) (by kernel_rfl) (by simp) ?_
                refine AllReadyIn.cons rfl (fun K hK => ?_) AllReadyIn.nil
                go_simp
                refine hK _ _ ?_
                refine wpAnyIn_done (by kernel_rfl) ?_ _
                exact HR2.out _ hX3
            · go_simp
              refine hK _ _ ?_
              refine wpAnyIn_ready (rs := [3, 7]) (by kernel_rfl) (by simp) ?_
              refine AllReadyIn.cons rfl (fun K hK => ?_) (AllReadyIn.cons rfl (fun K hK => ?_) AllReadyIn.nil)
              · go_simp
                refine hK _ _ ?_
                refine wpAnyIn_ready (rs := [7]) (by kernel_rfl) (by simp) ?_
                refine AllReadyIn.cons rfl (fun K hK => ?_) AllReadyIn.nil
                go_simp
                refine hK _ _ ?_
                refine wpAnyIn_ready (rs := [8]) (by kernel_rfl) (by simp) ?_
                refine AllReadyIn.cons rfl (fun K hK => ?_) AllReadyIn.nil
                go_simp
                refine hRd.mono ?_
                rintro e W3 (⟨rfl, hJ3, hb3, hk3⟩ | ⟨rfl, hX3⟩)
                · refine hK _ _ ?_
                  refine wpAnyIn_ready (rs := [9]) (by kernel_rfl) (by simp) ?_
                  refine AllReadyIn.cons rfl (fun K hK => ?_) AllReadyIn.nil
                  go_simp
                  refine hK _ _ ?_
                  refine wpAnyIn_ready (rs := [10]) (by kernel_rfl) (by simp) ?_
                  refine AllReadyIn.cons rfl (fun K hK => ?_) AllReadyIn.nil
                  go_simp
                  refine hK _ _ ?_
                  refine wpAnyIn_done (by kernel_rfl) ?_ _
                  exact HR1.out _ hJ3 hb3 hk3
                · refine hK _ _ ?_
                  refine wpAnyIn_ready (rs := [9]) (by kernel_rfl) (by simp) ?_
                  refine AllReadyIn.cons rfl (fun K hK => ?_) AllReadyIn.nil
                  go_simp
                  refine hK _ _ ?_
                  refine wpAnyIn_ready (rs := [10]) (by kernel_rfl) (by simp) ?_
                  refine AllReadyIn.cons rfl (fun K hK => ?_) AllReadyIn.nil
                  go_simp
                  refine hK _ _ ?_
                  refine wpAnyIn_done (by kernel_rfl) ?_ _
                  exact HR2.out _ hX3
              · go_simp
                refine hK _ _ ?_
                refine wpAnyIn_ready (rs := [3]) (by kernel_rfl) (by simp) ?_
                refine AllReadyIn.cons rfl (fun K hK => ?_) AllReadyIn.nil
                go_simp
                refine hK _ _ ?_
                refine wpAnyIn_ready (rs := [8]) (by kernel_rfl) (by simp) ?_
                refine AllReadyIn.cons rfl (fun K hK => ?_) AllReadyIn.nil
                go_simp
                refine hRd.mono ?_
                rintro e W3 (⟨rfl, hJ3, hb3, hk3⟩ | ⟨rfl, hX3⟩)
                · refine hK _ _ ?_
                  refine wpAnyIn_ready (rs := [9]) (by kernel_rfl) (by simp) ?_
                  refine AllReadyIn.cons rfl (fun K hK => ?_) AllReadyIn.nil
                  go_simp
                  refine hK _ _ ?_
                  refine wpAnyIn_ready (rs := [10]) (by kernel_rfl) (by simp) ?_
                  refine AllReadyIn.cons rfl (fun K hK => ?_) AllReadyIn.nil
                  go_simp
                  refine hK _ _ ?_
                  refine wpAnyIn_done (by kernel_rfl) ?_ _
                  exact HR1.out _ hJ3 hb3 hk3
                · refine hK _ _ ?_
                  refine wpAnyIn_ready (rs := [9]) (by kernel_rfl) (by simp) ?_
                  refine AllReadyIn.cons rfl (fun K hK => ?_) AllReadyIn.nil
                  go_simp
                  refine hK _ _ ?_
                  refine wpAnyIn_ready (rs := [10]) (by kernel_rfl) (by simp) ?_
                  refine AllReadyIn.cons rfl (fun K hK => ?_) AllReadyIn.nil
                  go_simp
                  refine hK _ _ ?_
                  refine wpAnyIn_done (by kernel_rfl) ?_ _
                  exact HR2.out _ hX3
          · go_simp
            refine hK _ _ ?_
            refine wpAnyIn_ready (rs := [3, 4, 7]) (by kernel_rfl) (by simp) ?_
            refine AllReadyIn.cons rfl (fun K hK => ?_) (AllReadyIn.cons rfl (fun K hK => ?_) (AllReadyIn.cons rfl (fun K hK => ?_) AllReadyIn.nil))
            · go_simp
              refine hK _ _ ?_
              refine wpAnyIn_ready (rs := [4, 7]) (by kernel_rfl) (by simp) ?_
              refine AllReadyIn.cons rfl (fun K hK => ?_) (AllReadyIn.cons rfl (fun K hK => ?_) AllReadyIn.nil)
              · go_simp
                refine hK _ _ ?_
                refine wpAnyIn_ready (rs := [7]) (by kernel_rfl) (by simp) ?_
                refine AllReadyIn.cons rfl (fun K hK => ?_) AllReadyIn.nil
                go_simp
                refine hK _ _ ?_
                refine wpAnyIn_ready (rs := [8]) (by kernel_rfl) (by simp) ?_
                refine AllReadyIn.cons rfl (fun K hK => ?_) AllReadyIn.nil
                go_simp
                refine hRd.mono ?_
                rintro e W3 (⟨rfl, hJ3, hb3, hk3⟩ | ⟨rfl, hX3⟩)
                · refine hK _ _ ?_
                  refine wpAnyIn_ready (rs := [9]) (by kernel_rfl) (by simp) ?_
                  refine AllReadyIn.cons rfl (fun K hK => ?_) AllReadyIn.nil
                  go_simp
                  refine hK _ _ ?_
                  refine wpAnyIn_ready (rs := [10]) (by kernel_rfl) (by simp) ?_
                  refine AllReadyIn.cons rfl (fun K hK => ?_) AllReadyIn.nil
                  go_simp
                  refine hK _ _ ?_
                  refine wpAnyIn_done (by kernel_rfl) ?_ _
                  exact HR1.out _ hJ3 hb3 hk3
                · refine hK _ _ ?_
                  refine wpAnyIn_ready (rs := [9]) (by kernel_rfl) (by simp) ?_
                  refine AllReadyIn.cons rfl (fun K hK => ?_) AllReadyIn.nil
                  go_simp
                  refine hK _ _ ?_
                  refine wpAnyIn_ready (rs := [10]) (by kernel_rfl) (by simp) ?_
                  refine AllReadyIn.cons rfl (fun K hK => ?_) AllReadyIn.nil
                  go_simp
                  refine hK _ _ ?_
                  refine wpAnyIn_done (by kernel_rfl) ?_ _
                  exact HR2.out _ hX3
              · go_simp
                refine hK _ _ ?_
                refine wpAnyIn_ready (rs := [4]) (by kernel_rfl) (by simp) ?_
                refine AllReadyIn.cons rfl (fun K hK => ?_) AllReadyIn.nil
                go_simp
                refine hK _ _ ?_
                refine wpAnyIn_ready (rs := [8]) (by kernel_rfl) (by simp) ?_
                refine AllReadyIn.cons rfl (fun K hK => ?_) AllReadyIn.nil
                go_simp
                refine hRd.mono ?_
                rintro e W3 (⟨rfl, hJ3, hb3, hk3⟩ | ⟨rfl, hX3⟩)
                · refine hK _ _ ?_
                  refine wpAnyIn_ready (rs := [9]) (by kernel_rfl) (by simp) ?_
                  refine AllReadyIn.cons rfl (fun K hK => ?_) AllReadyIn.nil
                  go_simp
                  refine hK _ _ ?_
                  refine wpAnyIn_ready (rs := [10]) (by kernel_rfl) (by simp) ?_
                  refine AllReadyIn.cons rfl (fun K hK => ?_) AllReadyIn.nil
                  go_simp
                  refine hK _ _ ?_
                  refine wpAnyIn_done (by kernel_rfl) ?_ _
                  exact HR1.out _ hJ3 hb3 hk3
                · refine hK _ _ ?_
                  refine wpAnyIn_ready (rs := [9]) (by kernel_rfl) (by simp) ?_
                  refine AllReadyIn.cons rfl (fun K hK => ?_) AllReadyIn.nil
                  go_simp
                  refine hK _ _ ?_
                  refine wpAnyIn_ready (rs := [10]) (by kernel_rfl) (by simp) ?_
                  refine AllReadyIn.cons rfl (fun K hK => ?_) AllReadyIn.nil
                  go_simp
                  refine hK _ _ ?_
                  refine wpAnyIn_done (by kernel_rfl) ?_ _
                  exact HR2.out _ hX3
            · go_simp
              refine hK _ _ ?_
              refine wpAnyIn_ready (rs := [3, 7]) (by kernel_rfl) (by simp) ?_
              refine AllReadyIn.cons rfl (fun K hK => ?_) (AllReadyIn.cons rfl (fun K hK => ?_) AllReadyIn.nil)
              · go_simp
                refine hK _ _ ?_
                refine wpAnyIn_ready (rs := [7]) (by kernel_rfl) (by simp) ?_
                refine AllReadyIn.cons rfl (fun K hK => ?_) AllReadyIn.nil
                go_simp
                refine hK _ _ ?_
                refine wpAnyIn_ready (rs := [8]) (by kernel_rfl) (by simp) ?_
                refine AllReadyIn.cons rfl (fun K hK => ?_) AllReadyIn.nil
                go_simp
                refine hRd.mono ?_
                rintro e W3 (⟨rfl, hJ3, hb3, hk3⟩ | ⟨rfl, hX3⟩)
                · refine hK _ _ ?_
                  refine wpAnyIn_ready (rs := [9]) (by kernel_rfl) (by simp) ?_
                  refine AllReadyIn.cons rfl (fun K hK => ?_) AllReadyIn.nil
                  go_simp
                  refine hK _ _ ?_
                  refine wpAnyIn_ready (rs := [10]) (by kernel_rfl) (by simp) ?_
                  refine AllReadyIn.cons rfl (fun K hK => ?_) AllReadyIn.nil
                  go_simp
                  refine hK _ _ ?_
                  refine wpAnyIn_done (by kernel_rfl) ?_ _
                  exact HR1.out _ hJ3 hb3 hk3
                · refine hK _ _ ?_
                  refine wpAnyIn_ready (rs := [9]) (by kernel_rfl) (by simp) ?_
                  refine AllReadyIn.cons rfl (fun K hK => ?_) AllReadyIn.nil
                  go_simp
                  refine hK _ _ ?_
                  refine wpAnyIn_ready (rs := [10]) (by kernel_rfl) (by simp) ?_
                  refine AllReadyIn.cons rfl (fun K hK => ?_) AllReadyIn.nil
                  go_simp
                  refine hK _ _ ?_
                  refine wpAnyIn_done (by kernel_rfl) ?_ _
                  exact HR2.out _ hX3
              · go_simp
                refine hK _ _ ?_
                refine wpAnyIn_ready (rs := [3]) (by kernel_rfl) (by simp) ?_
                refine AllReadyIn.cons rfl (fun K hK => ?_) AllReadyIn.nil
                go_simp
                refine hK _ _ ?_
                refine wpAnyIn_ready (rs := [8]) (by kernel_rfl) (by simp) ?_
                refine AllReadyIn.cons rfl (fun K hK => ?_) AllReadyIn.nil
                go_simp
                refine hRd.mono ?_
                rintro e W3 (⟨rfl, hJ3, hb3, hk3⟩ | ⟨rfl, hX3⟩)
                · refine hK _ _ ?_
                  refine wpAnyIn_ready (rs := [9]) (by kernel_rfl) (by simp) ?_
                  refine AllReadyIn.cons rfl (fun K hK => ?_) AllReadyIn.nil
                  go_simp
                  refine hK _ _ ?_
                  refine wpAnyIn_ready (rs := [10]) (by kernel_rfl) (by simp) ?_
                  refine AllReadyIn.cons rfl (fun K hK => ?_) AllReadyIn.nil
                  go_simp
                  refine hK _ _ ?_
                  refine wpAnyIn_done (by kernel_rfl) ?_ _
                  exact HR1.out _ hJ3 hb3 hk3
                · refine hK _ _ ?_
                  refine wpAnyIn_ready (rs := [9]) (by kernel_rfl) (by simp) ?_
                  refine AllReadyIn.cons rfl (fun K hK => ?_) AllReadyIn.nil
                  go_simp
                  refine hK _ _ ?_
                  refine wpAnyIn_ready (rs := [10]) (by kernel_rfl) (by simp) ?_
                  refine AllReadyIn.cons rfl (fun K hK => ?_) AllReadyIn.nil
                  go_simp
                  refine hK _ _ ?_
                  refine wpAnyIn_done (by kernel_rfl) ?_ _
                  exact HR2.out _ hX3
            · go_simp
              refine hK _ _ ?_
              refine wpAnyIn_ready (rs := [3, 4]) (by kernel_rfl) (by simp) ?_
              refine AllReadyIn.cons rfl (fun K hK => ?_) (AllReadyIn.cons rfl (fun K hK => ?_) AllReadyIn.nil)
              · go_simp
                refine hK _ _ ?_
                refine wpAnyIn_ready (rs := [4]) (by kernel_rfl) (by simp) ?_
                refine AllReadyIn.cons rfl (fun K hK => ?_) AllReadyIn.nil
                go_simp
                refine hK _ _ ?_
                refine wpAnyIn_ready (rs := [8]) (by kernel_rfl) (by simp) ?_
                refine AllReadyIn.cons rfl (fun K hK => ?_) AllReadyIn.nil
                go_simp
                refine hRd.mono ?_
                rintro e W3 (⟨rfl, hJ3, hb3, hk3⟩ | ⟨rfl, hX3⟩)
                · refine hK _ _ ?_
                  refine wpAnyIn_ready (rs := [9]) (by kernel_rfl) (by simp) ?_
                  refine AllReadyIn.cons rfl (fun K hK => ?_) AllReadyIn.nil
                  go_simp
                  refine hK _ _ ?_
                  refine wpAnyIn_ready (rs := [10]) (by kernel_rfl) (by simp) ?_
                  refine AllReadyIn.cons rfl (fun K hK => ?_) AllReadyIn.nil
                  go_simp
                  refine hK _ _ ?_
                  refine wpAnyIn_done (by kernel_rfl) ?_ _
                  exact HR1.out _ hJ3 hb3 hk3
                · refine hK _ _ ?_
                  refine wpAnyIn_ready (rs := [9]) (by kernel_rfl) (by simp) ?_
                  refine AllReadyIn.cons rfl (fun K hK => ?_) AllReadyIn.nil
                  go_simp
                  refine hK _ _ ?_
                  refine wpAnyIn_ready (rs := [10]) (by kernel_rfl) (by simp) ?_
                  refine AllReadyIn.cons rfl (fun K hK => ?_) AllReadyIn.nil
                  go_simp
                  refine hK _ _ ?_
                  refine wpAnyIn_done (by kernel_rfl) ?_ _
                  exact HR2.out _ hX3
              · go_simp
                refine hK _ _ ?_
                refine wpAnyIn_ready (rs := [3]) (by kernel_rfl) (by simp) ?_
                refine AllReadyIn.cons rfl (fun K hK => ?_) AllReadyIn.nil
                go_simp
                refine hK _ _ ?_
                refine wpAnyIn_ready (rs := [8]) (by kernel_rfl) (by simp) ?_
                refine AllReadyIn.cons rfl (fun K hK => ?_) AllReadyIn.nil
                go_simp
                refine hRd.mono ?_
                rintro e W3 (⟨rfl, hJ3, hb3, hk3⟩ | ⟨rfl, hX3⟩)
                · refine hK _ _ ?_
                  refine wpAnyIn_ready (rs := [9]) (by kernel_rfl) (by simp) ?_
                  refine AllReadyIn.cons rfl (fun K hK => ?_) AllReadyIn.nil
                  go_simp
                  refine hK _ _ ?_
                  refine wpAnyIn_ready (rs := [10]) (by kernel_rfl) (by simp) ?_
                  refine AllReadyIn.cons rfl (fun K hK => ?_) AllReadyIn.nil
                  go_simp
                  refine hK _ _ ?_
                  refine wpAnyIn_done (by kernel_rfl) ?_ _
                  exact HR1.out _ hJ3 hb3 hk3
                · refine hK _ _ ?_
                  refine wpAnyIn_ready (rs := [9]) (by kernel_rfl) (by simp) ?_
                  refine AllReadyIn.cons rfl (fun K hK => ?_) AllReadyIn.nil
                  go_simp
                  refine hK _ _ ?_
                  refine wpAnyIn_ready (rs := [10]) (by kernel_rfl) (by simp) ?_
                  refine AllReadyIn.cons rfl (fun K hK => ?_) AllReadyIn.nil
                  go_simp
                  refine hK _ _ ?_
                  refine wpAnyIn_done (by kernel_rfl) ?_ _
                  exact HR2.out _ hX3
        · go_simp
          refine hK _ _ ?_
          refine wpAnyIn_ready (rs := [3, 4, 5]) (by kernel_rfl) (by simp) ?_
          refine AllReadyIn.cons rfl (fun K hK => ?_) (AllReadyIn.cons rfl (fun K hK => ?_) (AllReadyIn.cons rfl (fun K hK => ?_) AllReadyIn.nil))
          · go_simp
            refine hK _ _ ?_
            refine wpAnyIn_ready (rs := [4, 5]) (by kernel_rfl) (by simp) ?_
            refine AllReadyIn.cons rfl (fun K hK => ?_) (AllReadyIn.cons rfl (fun K hK => ?_) AllReadyIn.nil)
            · go_simp
              refine hK _ _ ?_
              refine wpAnyIn_ready (rs := [5]) (by kernel_rfl) (by simp) ?_
              refine AllReadyIn.cons rfl (fun K hK => ?_) AllReadyIn.nil
              go_simp
              refine hK _ _ ?_
              refine wpAnyIn_ready (rs := [7]) (by kernel_rfl) (by simp) ?_
              refine AllReadyIn.cons rfl (fun K hK => ?_) AllReadyIn.nil
              go_simp
              refine hK _ _ ?_
              refine wpAnyIn_ready (rs := [8]) (by kernel_rfl) (by simp) ?_
              refine AllReadyIn.cons rfl (fun K hK => ?_) AllReadyIn.nil
              go_simp
              refine hRd.mono ?_
              rintro e W3 (⟨rfl, hJ3, hb3, hk3⟩ | ⟨rfl, hX3⟩)
              · refine hK _ _ ?_
                refine wpAnyIn_ready (rs := [9]) (by kernel_rfl) (by simp) ?_
                refine AllReadyIn.cons rfl (fun K hK => ?_) AllReadyIn.nil
                go_simp
                refine hK _ _ ?_
                refine wpAnyIn_ready (rs := [10]) (by kernel_rfl) (by simp) ?_
                refine AllReadyIn.cons rfl (fun K hK => ?_) AllReadyIn.nil
                go_simp
                refine hK _ _ ?_
                refine wpAnyIn_done (by kernel_rfl) ?_ _
                exact HR1.out _ hJ3 hb3 hk3
              · refine hK _ _ ?_
                refine wpAnyIn_ready (rs := [9]) (by kernel_rfl) (by simp) ?_
                refine AllReadyIn.cons rfl (fun K hK => ?_) AllReadyIn.nil
                go_simp
                refine hK _ _ ?_
                refine wpAnyIn_ready (rs := [10]) (by kernel_rfl) (by simp) ?_
                refine AllReadyIn.cons rfl (fun K hK => ?_) AllReadyIn.nil
                go_simp
                refine hK _ _ ?_
                refine wpAnyIn_done (by kernel_rfl) ?_ _
                exact HR2.out _ hX3
            · go_simp
              refine hK _ _ ?_
              refine wpAnyIn_ready (rs := [4, 7]) (by kernel_rfl) (by simp) ?_
              refine AllReadyIn.cons rfl (fun K hK => ?_) (AllReadyIn.cons rfl (fun K hK => ?_) AllReadyIn.nil)
              · go_simp
                refine hK _ _ ?_
                refine wpAnyIn_ready (rs := [7]) (by kernel_rfl) (by simp) ?_
                refine AllReadyIn.cons rfl (fun K hK => ?_) AllReadyIn.nil
                go_simp
                refine hK _ _ ?_
                refine wpAnyIn_ready (rs := [8]) (by kernel_rfl) (by simp) ?_
                refine AllReadyIn.cons rfl (fun K hK => ?_) AllReadyIn.nil
                go_simp
                refine hRd.mono ?_
                rintro e W3 (⟨rfl, hJ3, hb3, hk3⟩ | ⟨rfl, hX3⟩)
                · refine hK _ _ ?_
                  refine wpAnyIn_ready (rs := [9]) (by kernel_rfl) (by simp) ?_
                  refine AllReadyIn.cons rfl (fun K hK => ?_) AllReadyIn.nil
                  go_simp
                  refine hK _ _ ?_
                  refine wpAnyIn_ready (rs := [10]) (by kernel_rfl) (by simp) ?_
                  refine AllReadyIn.cons rfl (fun K hK => ?_) AllReadyIn.nil
                  go_simp
                  refine hK _ _ ?_
                  refine wpAnyIn_done (by kernel_rfl) ?_ _
                  exact HR1.out _ hJ3 hb3 hk3
                · refine hK _ _ ?_
                  refine wpAnyIn_ready (rs := [9]) (by kernel_rfl) (by simp) ?_
                  refine AllReadyIn.cons rfl (fun K hK => ?_) AllReadyIn.nil
                  go_simp
                  refine hK _ _ ?_
                  refine wpAnyIn_ready (rs := [10]) (by kernel_rfl) (by simp) ?_
                  refine AllReadyIn.cons rfl (fun K hK => ?_) AllReadyIn.nil
                  go_simp
                  refine hK _ _ ?_
                  refine wpAnyIn_done (by kernel_rfl) ?_ _
                  exact HR2.out _ hX3
              · go_simp
                refine hK _ _ ?_
                refine wpAnyIn_ready (rs := [4]) (by kernel_rfl) (by simp) ?_
                refine AllReadyIn.cons rfl (fun K hK => ?_) AllReadyIn.nil
                go_simp
                refine hK _ _ ?_
                refine wpAnyIn_ready (rs := [8]) (by kernel_rfl) (by simp) ?_
                refine AllReadyIn.cons rfl (fun K hK => ?_) AllReadyIn.nil
                go_simp
                refine hRd.mono ?_
                rintro e W3 (⟨rfl, hJ3, hb3, hk3⟩ | ⟨rfl, hX3⟩)
                · refine hK _ _ ?_
                  refine wpAnyIn_ready (rs := [9]) (by kernel_rfl) (by simp) ?_
                  refine AllReadyIn.cons rfl (fun K hK => ?_) AllReadyIn.nil
                  go_simp
                  refine hK _ _ ?_
                  refine wpAnyIn_ready (rs := [10]) (by kernel_rfl) (by simp) ?_
                  refine AllReadyIn.cons rfl (fun K hK => ?_) AllReadyIn.nil
                  go_simp
                  refine hK _ _ ?_
                  refine wpAnyIn_done (by kernel_rfl) ?_ _
                  exact HR1.out _ hJ3 hb3 hk3
                · refine hK _ _ ?_
                  refine wpAnyIn_ready (rs := [9]) (by kernel_rfl) (by simp) ?_
                  refine AllReadyIn.cons rfl (fun K hK => ?_) AllReadyIn.nil
                  go_simp
                  refine hK _ _ ?_
                  refine wpAnyIn_ready (rs := [10]) (by kernel_rfl) (by simp) ?_
                  refine AllReadyIn.cons rfl (fun K hK => ?_) AllReadyIn.nil
                  go_simp
                  refine hK _ _ ?_
                  refine wpAnyIn_done (by kernel_rfl) ?_ _
                  exact HR2.out _ hX3
          · go_simp
            refine hK _ _ ?_
            refine wpAnyIn_ready (rs := [3, 5]) (by kernel_rfl) (by simp) ?_
            refine AllReadyIn.cons rfl (fun K hK => ?_) (AllReadyIn.cons rfl (fun K hK => ?_) AllReadyIn.nil)
            · go_simp
              refine hK _ _ ?_
              refine wpAnyIn_ready (rs := [5]) (by kernel_rfl) (by simp) ?_
              refine AllReadyIn.cons rfl (fun K hK => ?_) AllReadyIn.nil
              go_simp
              refine hK _ _ ?_
              refine wpAnyIn_ready (rs := [7]) (by kernel_rfl) (by simp) ?_
              refine AllReadyIn.cons rfl (fun K hK => ?_) AllReadyIn.nil
              go_simp
              refine hK _ _ ?_
              refine wpAnyIn_ready (rs := [8]) (by kernel_rfl) (by simp) ?_
              refine AllReadyIn.cons rfl (fun K hK => ?_) AllReadyIn.nil
              go_simp
              refine hRd.mono ?_
              rintro e W3 (⟨rfl, hJ3, hb3, hk3⟩ | ⟨rfl, hX3⟩)
              · refine hK _ _ ?_
                refine wpAnyIn_ready (rs := [9]) (by kernel_rfl) (by simp) ?_
                refine AllReadyIn.cons rfl (fun K hK => ?_) AllReadyIn.nil
                go_simp
                refine hK _ _ ?_
                refine wpAnyIn_ready (rs := [10]) (by kernel_rfl) (by simp) ?_
                refine AllReadyIn.cons rfl (fun K hK => ?_) AllReadyIn.nil
                go_simp
                refine hK _ _ ?_
                refine wpAnyIn_done (by kernel_rfl) ?_ _
                exact HR1.out _ hJ3 hb3 hk3
              · refine hK _ _ ?_
                refine wpAnyIn_ready (rs := [9]) (by kernel_rfl) (by simp) ?_
                refine AllReadyIn.cons rfl (fun K hK => ?_) AllReadyIn.nil
                go_simp
                refine hK _ _ ?_
                refine wpAnyIn_ready (rs := [10]) (by kernel_rfl) (by simp) ?_
                refine AllReadyIn.cons rfl (fun K hK => ?_) AllReadyIn.nil
                go_simp
                refine hK _ _ ?_
                refine wpAnyIn_done (by kernel_rfl) ?_ _
                exact HR2.out _ hX3
            · go_simp
              refine hK _ _ ?_
              refine wpAnyIn_ready (rs := [3, 7]) (by kernel_rfl) (by simp) ?_
              refine AllReadyIn.cons rfl (fun K hK => ?_) (AllReadyIn.cons rfl (fun K hK => ?_) AllReadyIn.nil)
              · go_simp
                refine hK _ _ ?_
                refine wpAnyIn_ready (rs := [7]) (by kernel_rfl) (by simp) ?_
                refine AllReadyIn.cons rfl (fun K hK => ?_) AllReadyIn.nil
                go_simp
                refine hK _ _ ?_
                refine wpAnyIn_ready (rs := [8]) (by kernel_rfl) (by simp) ?_
                refine AllReadyIn.cons rfl (fun K hK => ?_) AllReadyIn.nil
                go_simp
                refine hRd.mono ?_
                rintro e W3 (⟨rfl, hJ3, hb3, hk3⟩ | ⟨rfl, hX3⟩)
                · refine hK _ _ ?_
                  refine wpAnyIn_ready (rs := [9]) (by kernel_rfl) (by simp) ?_
                  refine AllReadyIn.cons rfl (fun K hK => ?_) AllReadyIn.nil
                  go_simp
                  refine hK _ _ ?_
                  refine wpAnyIn_ready (rs := [10]) (by kernel_rfl) (by simp) ?_
                  refine AllReadyIn.cons rfl (fun K hK => ?_) AllReadyIn.nil
                  go_simp
                  refine hK _ _ ?_
                  refine wpAnyIn_done (by kernel_rfl) ?_ _
                  exact HR1.out _ hJ3 hb3 hk3
                · refine hK _ _ ?_
                  refine wpAnyIn_ready (rs := [9]) (by kernel_rfl) (by simp) ?_
                  refine AllReadyIn.cons rfl (fun K hK => ?_) AllReadyIn.nil
                  go_simp
                  refine hK _ _ ?_
                  refine wpAnyIn_ready (rs := [10]) (by kernel_rfl) (by simp) ?_
                  refine AllReadyIn.cons rfl (fun K hK => ?_) AllReadyIn.nil
                  go_simp
                  refine hK _ _ ?_
                  refine wpAnyIn_done (by kernel_rfl) ?_ _
                  exact HR2.out _ hX3
              · go_simp
                refine hK _ _ ?_
                refine wpAnyIn_ready (rs := [3]) (by kernel_rfl) (by simp) ?_
                refine AllReadyIn.cons rfl (fun K hK => ?_) AllReadyIn.nil
                go_simp
                refine hK _ _ ?_
                refine wpAnyIn_ready (rs := [8]) (by kernel_rfl) (by simp) ?_
                refine AllReadyIn.cons rfl (fun K hK => ?_) AllReadyIn.nil
                go_simp
                refine hRd.mono ?_
                rintro e W3 (⟨rfl, hJ3, hb3, hk3⟩ | ⟨rfl, hX3⟩)
                · refine hK _ _ ?_
                  refine wpAnyIn_ready (rs := [9]) (by kernel_rfl) (by simp) ?_
                  refine AllReadyIn.cons rfl (fun K hK => ?_) AllReadyIn.nil
                  go_simp
                  refine hK _ _ ?_
                  refine wpAnyIn_ready (rs := [10]) (by kernel_rfl) (by simp) ?_
                  refine AllReadyIn.cons rfl (fun K hK => ?_) AllReadyIn.nil
                  go_simp
                  refine hK _ _ ?_
                  refine wpAnyIn_done (by kernel_rfl) ?_ _
                  exact HR1.out _ hJ3 hb3 hk3
                · refine hK _ _ ?_
                  refine wpAnyIn_ready (rs := [9]) (by kernel_rfl) (by simp) ?_
                  refine AllReadyIn.cons rfl (fun K hK => ?_) AllReadyIn.nil
                  go_simp
                  refine hK _ _ ?_
                  refine wpAnyIn_ready (rs := [10]) (by kernel_rfl) (by simp) ?_
                  refine AllReadyIn.cons rfl (fun K hK => ?_) AllReadyIn.nil
                  go_simp
                  refine hK _ _ ?_
                  refine wpAnyIn_done (by kernel_rfl) ?_ _
                  exact HR2.out _ hX3
          · go_simp
            refine hK _ _ ?_
            refine wpAnyIn_ready (rs := [3, 4, 7]) (by kernel_rfl) (by simp) ?_
            refine AllReadyIn.cons rfl (fun K hK => ?_) (AllReadyIn.cons rfl (fun K hK => ?_) (AllReadyIn.cons rfl (fun K hK => ?_) AllReadyIn.nil))
            · go_simp
              refine hK _ _ ?_
              refine wpAnyIn_ready (rs := [4, 7]) (by kernel_rfl) (by simp) ?_
              refine AllReadyIn.cons rfl (fun K hK => ?_) (AllReadyIn.cons rfl (fun K hK => ?_) AllReadyIn.nil)
              · go_simp
                refine hK _ _ ?_
                refine wpAnyIn_ready (rs := [7]) (by kernel_rfl) (by simp) ?_
                refine AllReadyIn.cons rfl (fun K hK => ?_) AllReadyIn.nil
                go_simp
                refine hK _ _ ?_
                refine wpAnyIn_ready (rs := [8]) (by kernel_rfl) (by simp) ?_
                refine AllReadyIn.cons rfl (fun K hK => ?_) AllReadyIn.nil
                go_simp
                refine hRd.mono ?_
                rintro e W3 (⟨rfl, hJ3, hb3, hk3⟩ | ⟨rfl, hX3⟩)
                · refine hK _ _ ?_
                  refine wpAnyIn_ready (rs := [9]) (by kernel_rfl) (by simp) ?_
                  refine AllReadyIn.cons rfl (fun K hK => ?_) AllReadyIn.nil
                  go_simp
                  refine hK _ _ ?_
                  refine wpAnyIn_ready (rs := [10]) (by kernel_rfl) (by simp) ?_
                  refine AllReadyIn.cons rfl (fun K hK => ?_) AllReadyIn.nil
                  go_simp
                  refine hK _ _ ?_
                  refine wpAnyIn_done (by kernel_rfl) ?_ _
                  exact HR1.out _ hJ3 hb3 hk3
                · refine hK _ _ ?_
                  refine wpAnyIn_ready (rs := [9]) (by kernel_rfl) (by simp) ?_
                  refine AllReadyIn.cons rfl (fun K hK => ?_) AllReadyIn.nil
                  go_simp
                  refine hK _ _ ?_
                  refine wpAnyIn_ready (rs := [10]) (by kernel_rfl) (by simp) ?_
                  refine AllReadyIn.cons rfl (fun K hK => ?_) AllReadyIn.nil
                  go_simp
                  refine hK _ _ ?_
                  refine wpAnyIn_done (by kernel_rfl) ?_ _
                  exact HR2.out _ hX3
              · go_simp
                refine hK _ _ ?_
                refine wpAnyIn_ready (rs := [4]) (by kernel_rfl) (by simp) ?_
                refine AllReadyIn.cons rfl (fun K hK => ?_) AllReadyIn.nil
                go_simp
                refine hK _ _ ?_
                refine wpAnyIn_ready (rs := [8]) (by kernel_rfl) (by simp) ?_
                refine AllReadyIn.cons rfl (fun K hK => ?_) AllReadyIn.nil
                go_simp
                refine hRd.mono ?_
                rintro e W3 (⟨rfl, hJ3, hb3, hk3⟩ | ⟨rfl, hX3⟩)
                · refine hK _ _ ?_
                  refine wpAnyIn_ready (rs := [9]) (by kernel_rfl) (by simp) ?_
                  refine AllReadyIn.cons rfl (fun K hK => ?_) AllReadyIn.nil
                  go_simp
                  refine hK _ _ ?_
                  refine wpAnyIn_ready (rs := [10]) (by kernel_rfl) (by simp) ?_
                  refine AllReadyIn.cons rfl (fun K hK => ?_) AllReadyIn.nil
                  go_simp
                  refine hK _ _ ?_
                  refine wpAnyIn_done (by kernel_rfl) ?_ _
                  exact HR1.out _ hJ3 hb3 hk3
                · refine hK _ _ ?_
                  refine wpAnyIn_ready (rs := [9]) (by kernel_rfl) (by simp) ?_
                  refine AllReadyIn.cons rfl (fun K hK => ?_) AllReadyIn.nil
                  go_simp
                  refine hK _ _ ?_
                  refine wpAnyIn_ready (rs := [10]) (by kernel_rfl) (by simp) ?_
                  refine AllReadyIn.cons rfl (fun K hK => ?_) AllReadyIn.nil
                  go_simp
                  refine hK _ _ ?_
                  refine wpAnyIn_done (by kernel_rfl) ?_ _
                  exact HR2.out _ hX3
            · go_simp
              refine hK _ _ ?_
              refine wpAnyIn_ready (rs := [3, 7]) (by kernel_rfl) (by simp) ?_
              refine AllReadyIn.cons rfl (fun K hK => ?_) (AllReadyIn.cons rfl (fun K hK => ?_) AllReadyIn.nil)
              · go_simp
                refine hK _ _ ?_
                refine wpAnyIn_ready (rs := [7]) (by kernel_rfl) (by simp) ?_
                refine AllReadyIn.cons rfl (fun K hK => ?_) AllReadyIn.nil
                go_simp
                refine hK _ _ ?_
                refine wpAnyIn_ready (rs := [8]) (by kernel_rfl) (by simp) ?_
                refine AllReadyIn.cons rfl (fun K hK => ?_) AllReadyIn.nil
                go_simp
                refine hRd.mono ?_
                rintro e W3 (⟨rfl, hJ3, hb3, hk3⟩ | ⟨rfl, hX3⟩)
                · refine hK _ _ ?_
                  refine wpAnyIn_ready (rs := [9]) (by kernel_rfl) (by simp) ?_
                  refine AllReadyIn.cons rfl (fun K hK => ?_) AllReadyIn.nil
                  go_simp
                  refine hK _ _ ?_
                  refine wpAnyIn_ready (rs := [10]) (by kernel_rfl) (by simp) ?_
                  refine AllReadyIn.cons rfl (fun K hK => ?_) AllReadyIn.nil
                  go_simp
                  refine hK _ _ ?_
                  refine wpAnyIn_done (by kernel_rfl) ?_ _
                  exact HR1.out _ hJ3 hb3 hk3
                · refine hK _ _ ?_
                  refine wpAnyIn_ready (rs := [9]) (by kernel_rfl) (by simp) ?_
                  refine AllReadyIn.cons rfl (fun K hK => ?_) AllReadyIn.nil
                  go_simp
                  refine hK _ _ ?_
                  refine wpAnyIn_ready (rs := [10]) (by kernel_rfl) (by simp) ?_
                  refine AllReadyIn.cons rfl (fun K hK => ?_) AllReadyIn.nil
                  go_simp
                  refine hK _ _ ?_
                  refine wpAnyIn_done (by kernel_rfl) ?_ _
                  exact HR2.out _ hX3
              · go_simp
                refine hK _ _ ?_
                refine wpAnyIn_ready (rs := [3]) (by kernel_rfl) (by simp) ?_
                refine AllReadyIn.cons rfl (fun K hK => ?_) AllReadyIn.nil
                go_simp
                refine hK _ _ ?_
                refine wpAnyIn_ready (rs := [8]) (by kernel_rfl) (by simp) ?_
                refine AllReadyIn.cons rfl (fun K hK => ?_) AllReadyIn.nil
                go_simp
                refine hRd.mono ?_
                rintro e W3 (⟨rfl, hJ3, hb3, hk3⟩ | ⟨rfl, hX3⟩)
                · refine hK _ _ ?_
                  refine wpAnyIn_ready (rs := [9]) (by kernel_rfl) (by simp) ?_
                  refine AllReadyIn.cons rfl (fun K hK => ?_) AllReadyIn.nil
                  go_simp
                  refine hK _ _ ?_
                  refine wpAnyIn_ready (rs := [10]) (by kernel_rfl) (by simp) ?_
                  refine AllReadyIn.cons rfl (fun K hK => ?_) AllReadyIn.nil
                  go_simp
                  refine hK _ _ ?_
                  refine wpAnyIn_done (by kernel_rfl) ?_ _
                  exact HR1.out _ hJ3 hb3 hk3
                · refine hK _ _ ?_
                  refine wpAnyIn_ready (rs := [9]) (by kernel_rfl) (by simp) ?_
                  refine AllReadyIn.cons rfl (fun K hK => ?_) AllReadyIn.nil
                  go_simp
                  refine hK _ _ ?_
                  refine wpAnyIn_ready (rs := [10]) (by kernel_rfl) (by simp) ?_
                  refine AllReadyIn.cons rfl (fun K hK => ?_) AllReadyIn.nil
                  go_simp
                  refine hK _ _ ?_
                  refine wpAnyIn_done (by kernel_rfl) ?_ _
                  exact HR2.out _ hX3
            · go_simp
              refine hK _ _ ?_
              refine wpAnyIn_ready (rs := [3, 4]) (by kernel_rfl) (by simp) ?_
              refine AllReadyIn.cons rfl (fun K hK => ?_) (AllReadyIn.cons rfl (fun K hK => ?_) AllReadyIn.nil)
              · go_simp
                refine hK _ _ ?_
                refine wpAnyIn_ready (rs := [4]) (by kernel_rfl) (by simp) ?_
                refine AllReadyIn.cons rfl (fun K hK => ?_) AllReadyIn.nil
                go_simp
                refine hK _ _ ?_
                refine wpAnyIn_ready (rs := [8]) (by kernel_rfl) (by simp) ?_
                refine AllReadyIn.cons rfl (fun K hK => ?_) AllReadyIn.nil
                go_simp
                refine hRd.mono ?_
                rintro e W3 (⟨rfl, hJ3, hb3, hk3⟩ | ⟨rfl, hX3⟩)
                · refine hK _ _ ?_
                  refine wpAnyIn_ready (rs := [9]) (by kernel_rfl) (by simp) ?_
                  refine AllReadyIn.cons rfl (fun K hK => ?_) AllReadyIn.nil
                  go_simp
                  refine hK _ _ ?_
                  refine wpAnyIn_ready (rs := [10]) (by kernel_rfl) (by simp) ?_
                  refine AllReadyIn.cons rfl (fun K hK => ?_) AllReadyIn.nil
                  go_simp
                  refine hK _ _ ?_
                  refine wpAnyIn_done (by kernel_rfl) ?_ _
                  exact HR1.out _ hJ3 hb3 hk3
                · refine hK _ _ ?_
                  refine wpAnyIn_ready (rs := [9]) (by kernel_rfl) (by simp) ?_
                  refine AllReadyIn.cons rfl (fun K hK => ?_) AllReadyIn.nil
                  go_simp
                  refine hK _ _ ?_
                  refine wpAnyIn_ready (rs := [10]) (by kernel_rfl) (by simp) ?_
                  refine AllReadyIn.cons rfl (fun K hK => ?_) AllReadyIn.nil
                  go_simp
                  refine hK _ _ ?_
                  refine wpAnyIn_done (by kernel_rfl) ?_ _
                  exact HR2.out _ hX3
              · go_simp
                refine hK _ _ ?_
                refine wpAnyIn_ready (rs := [3]) (by kernel_rfl) (by simp) ?_
                refine AllReadyIn.cons rfl (fun K hK => ?_) AllReadyIn.nil
                go_simp
                refine hK _ _ ?_
                refine wpAnyIn_ready (rs := [8]) (by kernel_rfl) (by simp) ?_
                refine AllReadyIn.cons rfl (fun K hK => ?_) AllReadyIn.nil
                go_simp
                refine hRd.mono ?_
                rintro e W3 (⟨rfl, hJ3, hb3, hk3⟩ | ⟨rfl, hX3⟩)
                · refine hK _ _ ?_
                  refine wpAnyIn_ready (rs := [9]) (by kernel_rfl) (by simp) ?_
                  refine AllReadyIn.cons rfl (fun K hK => ?_) AllReadyIn.nil
                  go_simp
                  refine hK _ _ ?_
                  refine wpAnyIn_ready (rs := [10]) (by kernel_rfl) (by simp) ?_
                  refine AllReadyIn.cons rfl (fun K hK => ?_) AllReadyIn.nil
                  go_simp
                  refine hK _ _ ?_
                  refine wpAnyIn_done (by kernel_rfl) ?_ _
                  exact HR1.out _ hJ3 hb3 hk3
                · refine hK _ _ ?_
                  refine wpAnyIn_ready (rs := [9]) (by kernel_rfl) (by simp) ?_
                  refine AllReadyIn.cons rfl (fun K hK => ?_) AllReadyIn.nil
                  go_simp
                  refine hK _ _ ?_
                  refine wpAnyIn_ready (rs := [10]) (by kernel_rfl) (by simp) ?_
                  refine AllReadyIn.cons rfl (fun K hK => ?_) AllReadyIn.nil
                  go_simp
                  refine hK _ _ ?_
                  refine wpAnyIn_done (by kernel_rfl) ?_ _
                  exact HR2.out _ hX3
    · have hk4 : k = 4096 := by omega
      have HS : Hid (SP bs pre) := by
        unfold Hid SP
        rw [HPF.out, hk4, HLR.out]
        simp [prF]
      gi_wp2
      refine bodyPost_end (results_none rfl _ _ _) rfl ?_
      exact ⟨⟨_, rfl⟩, .inl ⟨pre, HS.out, hJp⟩⟩
end Go.Proofs.Ytlpjdfgknmfmnaa
