/- FL9, joined. -/
import Derived.Test.YthicmbjiblbcmaaGreatTQ9
import Derived.Test.YthicmbjiblbcmaaGreatTQ11
import Derived.Test.YthicmbjiblbcmaaGreatTQ25
/- The contract of fold.folded. -/
namespace Go.Proofs.YthicmbjiblbcmaaGreat
open Go.RowKit

def FdPost (R : Rl) (wm : Int) (its : List It) (w : World) (e : Ending) (w' : World) : Prop :=
  ∃ v' xs, e = .returned v' ∧ EOwn w' w.heap.size v' xs ∧ xs.map evE = foldF R wm (its.map itE) ∧ (∀ x ∈ xs, CnOk x.a) ∧ Below w.heap.size w w'
set_option maxRecDepth 100000 in
set_option maxHeartbeats 8000000 in
theorem folded_any (R : Rl) (hR : RightP R) (wm : Int) (hwm : isT wm = true) (v : Value) (its : List It) (w : World) (hL : Lies R w.heap.size w) (hT : TReads w v its) (hok : ∀ x ∈ its, ItOk R x) (hl : its.length ≤ 100000) :
    Calls Tryz.prog 22 #[.agg #[.slice R.a R.len R.cap, .int .i64 R.kp], .int .i64 wm, v] w (FdPost R wm its w) := by
  have HL : Hid (Lies R w.heap.size w) := hL
  have HT : Hid (TReads w v its) := hT
  have HOK : Hid _ := hok
  have HR : Hid (RightP R) := hR
  obtain ⟨a, cap, rfl, hm1, hm2⟩ := hT.form
  unfold maxLen at hm2
  clear hL hT hok hR
  obtain ⟨w1, HW1⟩ := hid_ex (w.alloc (.cells #[.slice R.a R.len R.cap, .int .i64 R.kp] 24))
  have HB1 : Hid (Below w.heap.size w w1) := by rw [HW1.out]; exact new_below _ _
  have HX1 : Hid (RBox R w.heap.size w1) := by rw [HW1.out]; exact RBox.new R w _
  have HI0 : Hid (FoI R wm its w1 0 [] (.slice none 0 0) w1) := FoI.start R wm its w1
  have HEnd : Hid (∀ v' xs wr, FoI R wm its w1 its.length xs v' wr → FdPost R wm its w (.returned v') wr) := fun v' xs wr h => ⟨v', xs, rfl, ⟨own_mono h.r HB1.out.size, fun x hx => (h.ks x hx).mono HB1.out.size⟩, by rw [h.m, List.take_length], h.c, HB1.out.trans (h.b.mono HB1.out.size)⟩
  have HLI : Hid (∀ W, Below w1.heap.size w1 W → Lies R W.heap.size W ∧ RBox R w.heap.size W ∧ Below w.heap.size w W) := fun W hW => ⟨HL.out.at (HB1.out.trans (hW.mono HB1.out.size)), HX1.out.below hW, HB1.out.trans (hW.mono HB1.out.size)⟩
  go_enter Tryz.func22, Tryz.ntmps22
  go_wp2_with fail
  rw [← HW1.out]
  clear HW1
  go_step3
  go_wp2_with fail
  go_step3
  go_wp2_with fail
  go_loopw [7, 17] (fun ov i wr => ∃ (k : Nat) (xs : List Ev), i = .int .i64 (k : Int) ∧ k ≤ its.length ∧ Hid (FoI R wm its w1 k xs ov wr)) (fun _ i _ => its.length - (intOf i).toNat)
  case atStart => exact ⟨0, [], rfl, by omega, HI0⟩
  case round =>
    clear HI0
    obtain ⟨k, xs, rfl, hk, HC⟩ := hrel
    by_cases hlt : k < its.length
    · obtain ⟨b, off, rfl, hbw, hcw, hsr⟩ := HT.out.at hlt
      have hbr := (HLI.out _ HC.out.b).2.2
      have hok := HOK.out its[k] (List.getElem_mem hlt)
      have HPS : Hid (∀ wr', FoI R wm its w1 k xs u7 wr' → goneB R wm its[k].f = true → FoI R wm its w1 (k + 1) xs u7 wr') := fun wr' h1 h2 => h1.pass hlt HOK.out h2
      have HNX0 : Hid (goneB R wm its[k].f = false → foldF R wm ((its.take (k + 1)).map itE) = ins (kb its[k].D (flq R wm its[k].f its[k].g) ((stq R wm its[k].f its[k].g : Nat) : Int), its[k].a) (foldF R wm ((its.take k).map itE))) := fun h => fold_next hlt HOK.out h
      have HPUT : Hid (∀ (wr' W : World) (v v' : Value) (o : Obj) (j : Nat) (kv : Value) (K : Ks), FoI R wm its w1 k xs v wr' → foldF R wm ((its.take (k + 1)).map itE) = ins (K, its[k].a) (foldF R wm ((its.take k).map itE)) → j ≤ xs.length → Behind xs j K → (j = 0 ∨ ∃ (h0 : j - 1 < xs.length), ltK xs[j - 1].k K) → Own wr' w1.heap.size kv K → InPost (wr'.alloc o) w1.heap.size v xs j ⟨kv, K, its[k].a⟩ (.returned v') W → FoI R wm its w1 (k + 1) (insE xs j ⟨kv, K, its[k].a⟩) v' W) := fun wr' W v v' o j kv K h1 h2 h3 h4 h5 h6 h7 => h1.put hlt HOK.out h2 h3 h4 h5 h6 h7
      have HMOR : Hid (∀ (wr' W : World) (g cap : Nat) (cur : Array Value) (j : Nat) (K : Ks), FoI R wm its w1 k xs (.slice (some ⟨g, 0, none⟩) xs.length cap) wr' → foldF R wm ((its.take (k + 1)).map itE) = ins (K, its[k].a) (foldF R wm ((its.take k).map itE)) → ∀ (hj : j < xs.length), xs[j].k = K → wr'.heap[g]? = some (.cells cur 56) → StW wr' W g (j * 7 + 1) cur 56 (a6 (mrg xs[j].a its[k].a)) → FoI R wm its w1 (k + 1) (xs.set j ⟨xs[j].kv, xs[j].k, mrg xs[j].a its[k].a⟩) (.slice (some ⟨g, 0, none⟩) xs.length cap) W) := fun wr' W g cap cur j K h1 h2 hj h3 h4 h5 => h1.more hlt HOK.out h2 hj h3 h4 h5
      have HXL : Hid (xs.length ≤ 100000) := by
        have h1 := congrArg List.length HC.out.m
        have h2 := foldF_len R wm ((its.take k).map itE)
        unfold Hid
        simp at h1 h2
        omega
      have hc : ∀ i (hi : i < 9), wr.cell? ⟨b, off + k * 9 + i, none⟩ = some ((c9 its[k])[i]'hi) := fun i hi => (hbr.cell (p := ⟨b, off + k * 9 + i, none⟩) hbw).trans (hcw i hi)
      have hsr2 := hsr.below hbr
      obtain ⟨X, HX⟩ := hid_ex its[k]
      rw [← HX.out] at hc hok HPS HNX0 HPUT HMOR hsr2
      have hbeg := hok.beg HR.out
      obtain ⟨va, vc, hvd, _⟩ := hsr2.form
      obtain ⟨dn, Hdn⟩ := hid_ex X.D.length
      rw [← Hdn.out] at hvd
      rw [hvd] at hsr2
      have c0 := hc 0 (by decide)
      have c1 := hc 1 (by decide)
      have c2 := hc 2 (by decide)
      have c3 := hc 3 (by decide)
      have c4 := hc 4 (by decide)
      have c5 := hc 5 (by decide)
      have c6 := hc 6 (by decide)
      have c7 := hc 7 (by decide)
      have c8 := hc 8 (by decide)
      simp only [c9, List.getElem_cons_zero, List.getElem_cons_succ, Nat.add_zero] at c0 c1 c2 c3 c4 c5 c6 c7 c8
      rw [hvd] at c0
      obtain ⟨w3, HW3⟩ := hid_ex (wr.alloc (.cells #[.slice va dn vc, .int .i64 X.f, .int .i64 (X.g : Int), .int .u64 X.a.c, .bool X.a.o, .int .i64 (hi X.a.s), .int .u64 (lo X.a.s), .int .i64 X.a.mn, .int .i64 X.a.mx] 75))
      have hb3 : Below wr.heap.size wr w3 := by rw [HW3.out]; exact new_below _ _
      have HC3 : Hid (FoI R wm its w1 k xs u7 w3) := HC.out.below hb3
      have HBX : Hid (w3.heap[wr.heap.size]? = some (.cells #[.slice va dn vc, .int .i64 X.f, .int .i64 (X.g : Int), .int .u64 X.a.c, .bool X.a.o, .int .i64 (hi X.a.s), .int .u64 (lo X.a.s), .int .i64 X.a.mn, .int .i64 X.a.mx] 75)) := by rw [HW3.out]; exact heap_alloc_new _ _
      have HSR3 : Hid (SReads w3 (.slice va dn vc) X.D) := hsr2.below hb3
      have HFO : Hid (∀ W, Lies R W.heap.size W → Calls Tryz.prog 21 #[.agg #[.slice R.a R.len R.cap, .int .i64 R.kp], .int .i64 wm, .agg #[.slice va dn vc, .int .i64 X.f, .int .i64 (X.g : Int)]] W fun e w' => e = .returned (fateV R wm X.f X.g) ∧ Below W.heap.size W w') := fun W hW => fateOf_any R HR.out wm hwm va dn vc X.f X.g hbeg.t hbeg.gl W hW
      have HRN : Hid (rightBK X.D (flq R wm X.f X.g) ((stq R wm X.f X.g : Nat) : Int) = true) := by
        have h1 := rdF_kb X.D X.f (X.g : Int) hok.r
        have h2 := right_next HR.out h1 (by rw [Int.toNat_natCast]; exact hbeg.gl) wm
        rw [Int.toNat_natCast] at h2
        exact h2
      have hfb := flq_bd HR.out hbeg.gl hbeg.t wm
      have hqb := stq_lt HR.out (w := wm) (f := X.f) hbeg.gl
      have hR4 := HR.out.2.1
      unfold fateV at HFO
      obtain ⟨fr, Hfr⟩ := hid_ex (flq R wm X.f X.g)
      obtain ⟨q, Hq⟩ := hid_ex (stq R wm X.f X.g)
      obtain ⟨gn, Hgn⟩ := hid_ex (goneB R wm X.f)
      rw [← Hfr.out, ← Hq.out, ← Hgn.out] at HFO HNX0
      rw [← Hfr.out, ← Hq.out] at HRN
      rw [← Hgn.out] at HPS
      rw [← Hfr.out] at hfb
      rw [← Hq.out] at hqb
      have HL3 : Hid (Lies R w3.heap.size w3) := (HLI.out _ HC3.out.b).1
      obtain ⟨hrx, r0, r1⟩ := (HLI.out _ HC.out.b).2.1
      have HAOK : Hid (CnOk X.a) := hok.c
      clear hc hcw hsr hsr2 hb3 hok hbeg Hfr Hq Hgn HX hbr HC
      go_wp2_with fail
      rw [← HW3.out]
      clear HW3 c0 c1 c2 c3 c4 c5 c6 c7 c8 r0 r1 hrx
      refine (HFO.out _ HL3.out).mono ?_
      rintro e w4 ⟨rfl, hb4⟩
      obtain ⟨w5, HW5⟩ := hid_ex (w4.alloc (.cells #[.int .i64 fr, .int .i64 (q : Int), .bool gn] 77))
      have hb5 : Below w3.heap.size w3 w5 := by rw [HW5.out]; exact hb4.alloc hb4.size _
      have HC5 : Hid (FoI R wm its w1 k xs u7 w5) := HC3.out.below hb5
      have HX5 : Hid (w5.heap[wr.heap.size]? = some (.cells #[.slice va dn vc, .int .i64 X.f, .int .i64 (X.g : Int), .int .u64 X.a.c, .bool X.a.o, .int .i64 (hi X.a.s), .int .u64 (lo X.a.s), .int .i64 X.a.mn, .int .i64 X.a.mx] 75)) := (hb5.block _ (Array.getElem?_eq_some_iff.1 HBX.out).1).trans HBX.out
      have HF5 : Hid (w5.heap[w4.heap.size]? = some (.cells #[.int .i64 fr, .int .i64 (q : Int), .bool gn] 77)) := by rw [HW5.out]; exact heap_alloc_new _ _
      have HSR5 : Hid (SReads w5 (.slice va dn vc) X.D) := HSR3.out.below hb5
      clear hb4 hb5 HC3 HBX HSR3 HL3 HFO
      cases gn with
      | true =>
        have HN5 : Hid (FoI R wm its w1 (k + 1) xs u7 w5) := HPS.out _ HC5.out rfl
        go_wp2_with fail
        rw [← HW5.out]
        go_roundw
        case rel => exact ⟨k + 1, xs, by go_num, by omega, HN5⟩
        case measure => simp [intOf]; omega
      | false =>
        have HNX : Hid _ := HNX0.out rfl
        obtain ⟨K, HK⟩ := hid_ex (kb X.D fr (q : Int))
        rw [← HK.out] at HNX
        have HKL : Hid (KLies ⟨.slice va dn vc, X.D, fr, (q : Int)⟩ w5) := ⟨HSR5.out, by show (-9223372036854775808 : Int) ≤ fr; omega, by show fr ≤ (9223372036854775807 : Int); omega, by show (-9223372036854775808 : Int) ≤ (q : Int); omega, by show (q : Int) ≤ (9223372036854775807 : Int); omega⟩
        have HWY : Hid (Calls Tryz.prog 40 #[.agg #[.slice va dn vc, .int .i64 fr, .int .i64 (q : Int)]] w5 fun e w' => ∃ v, e = .returned (.tuple #[v, .int .i64 0]) ∧ Own w' w5.heap.size v K ∧ Below w5.heap.size w5 w') := by rw [HK.out]; exact write_yes ⟨.slice va dn vc, X.D, fr, (q : Int)⟩ HRN.out w5 HKL.out
        have x0 := (cell_row HX5.out 0 (by simp)).1
        have f0 := (cell_row HF5.out 0 (by simp)).1
        have f1 := (cell_row HF5.out 1 (by simp)).1
        have f2 := (cell_row HF5.out 2 (by simp)).1
        simp only [List.getElem_toArray, List.getElem_cons_zero, List.getElem_cons_succ] at x0 f0 f1 f2
        clear hfb hqb HPS HNX0 HRN HKL HSR5
        have HW5' : Hid (w4.alloc (.cells #[.int .i64 fr, .int .i64 (q : Int), .bool false] 77) = w5) := HW5.out.symm
        go_wp2_with (rw [HW5'.out])
        refine HWY.out.mono ?_
        rintro e w6 ⟨vk, rfl, hown6, hb6⟩
        have HC6 : Hid (FoI R wm its w1 k xs u7 w6) := HC5.out.below hb6
        obtain ⟨bx, Hbx⟩ := hid_ex wr.heap.size
        have HX6 : Hid (w6.heap[bx]? = some (.cells #[.slice va dn vc, .int .i64 X.f, .int .i64 (X.g : Int), .int .u64 X.a.c, .bool X.a.o, .int .i64 (hi X.a.s), .int .u64 (lo X.a.s), .int .i64 X.a.mn, .int .i64 X.a.mx] 75)) := by rw [Hbx.out]; exact (hb6.block _ (Array.getElem?_eq_some_iff.1 HX5.out).1).trans HX5.out
        rw [← Hbx.out]
        have HO5 : Hid (Own w6 w1.heap.size vk K) := hown6.mono HC5.out.b.size
        obtain ⟨sk, ck, rfl, _⟩ := hown6.form
        obtain ⟨kn, Hkn⟩ := hid_ex K.length
        rw [← Hkn.out] at HO5 ⊢
        obtain ⟨ua, uc, hu7⟩ := row_form HC6.out.r
        have HU7 : Hid (u7 = .slice ua xs.length uc) := hu7
        clear hown6 hb6 x0 f0 f1 f2 HC5 HX5 HF5 HW5 HW5' HWY Hbx hu7
        have hlen : ∀ W, (Builtin.len_ #[31] 3 #[u7]).run Tryz.prog W = .ok (.int .i64 (xs.length : Int)) W := fun W => by rw [HU7.out]; rfl
        go_wp2_with fail
        go_loopw [13] (fun at' wq => ∃ j : Nat, at' = .int .i64 (j : Int) ∧ j ≤ xs.length ∧ Hid (Behind xs j K) ∧ Hid (Below w6.heap.size w6 wq)) (fun at' _ => (intOf at').toNat)
        case atStart => exact ⟨xs.length, rfl, Nat.le_refl _, fun t ht h => by omega, Below.refl _ _⟩
        case round =>
          obtain ⟨j, rfl, hj, HBh, HWr⟩ := hrel
          have HCr : Hid (FoI R wm its w1 k xs u7 wr) := HC6.out.below HWr.out
          have HXr : Hid (wr.heap[bx]? = some (.cells #[.slice va dn vc, .int .i64 X.f, .int .i64 (X.g : Int), .int .u64 X.a.c, .bool X.a.o, .int .i64 (hi X.a.s), .int .u64 (lo X.a.s), .int .i64 X.a.mn, .int .i64 X.a.mx] 75)) := (HWr.out.block _ (Array.getElem?_eq_some_iff.1 HX6.out).1).trans HX6.out
          clear hlen
          rcases Nat.eq_zero_or_pos j with hj0 | hj0
          · have HAH : Hid (j = 0 ∨ ∃ (h0 : j - 1 < xs.length), ltK xs[j - 1].k K) := .inl hj0
            have hng : ¬ ((0 : Int) < (j : Int)) := by rw [hj0]; decide
            clear hj0
            have HOr : Hid (Own wr w1.heap.size (.slice sk kn ck) K) := HO5.out.below HWr.out
            have HVB : Hid (u7.ownBlock ≠ some wr.heap.size) := fun e => by have := (World.ownsRow.lt HCr.out.r _ e).2; omega
            have d3 := (cell_row HXr.out 3 (by simp)).1
            have d4 := (cell_row HXr.out 4 (by simp)).1
            have d5 := (cell_row HXr.out 5 (by simp)).1
            have d6 := (cell_row HXr.out 6 (by simp)).1
            have d7 := (cell_row HXr.out 7 (by simp)).1
            have d8 := (cell_row HXr.out 8 (by simp)).1
            simp only [List.getElem_toArray, List.getElem_cons_zero, List.getElem_cons_succ] at d3 d4 d5 d6 d7 d8
            obtain ⟨w7, HW7⟩ := hid_ex (wr.alloc (.cells #[.slice sk kn ck, .int .u64 X.a.c, .bool X.a.o, .int .i64 (hi X.a.s), .int .u64 (lo X.a.s), .int .i64 X.a.mn, .int .i64 X.a.mx] 56))
            have hb7 : Below wr.heap.size wr w7 := by rw [HW7.out]; exact new_below _ _
            have HC7 : Hid (FoI R wm its w1 k xs u7 w7) := HCr.out.below hb7
            have HN7 : Hid (w7.heap[wr.heap.size]? = some (.cells (c7 ⟨.slice sk kn ck, K, X.a⟩).toArray 56)) := by rw [HW7.out]; exact heap_alloc_new _ _
            have HLE : Hid (w1.heap.size ≤ w7.heap.size) := HC7.out.b.size
            have HKO : Hid (∀ x ∈ xs, x.kv.oneCell' = true) := fun x hx => own_one (HCr.out.ks x hx)
            clear hb7
            go_wp2_with fail
            rw [← HW7.out]
            refine (insert_any u7 xs (j) ⟨.slice sk kn ck, K, X.a⟩ _ w1.heap.size wr.heap.size HC7.out.r (by have := HXL.out; omega) hj HLE.out HVB.out HKO.out rfl HN7.out).mono ?_
            rintro e w8 ⟨v8, rfl, hown8, hg8⟩
            have HN8 : Hid (FoI R wm its w1 (k + 1) (insE xs (j) ⟨.slice sk kn ck, K, X.a⟩) v8 w8) := HPUT.out wr w8 u7 v8 _ (j) _ K HCr.out HNX.out hj HBh.out HAH.out HOr.out ⟨v8, rfl, hown8, by rw [← HW7.out]; exact hg8⟩
            clear hown8 hg8 d3 d4 d5 d6 d7 d8 HW7
            go_wp2_with fail
            go_roundw
            case rel => exact ⟨k + 1, _, by go_num, by omega, HN8⟩
            case measure => simp [intOf]; omega
          · obtain ⟨i, rfl⟩ : ∃ i, j = i + 1 := ⟨j - 1, by omega⟩
            have hil : i < xs.length := by omega
            obtain ⟨a', cap', hv', _, _, hcl⟩ := EOwn.at ⟨HCr.out.r, HCr.out.ks⟩
            obtain ⟨g, rfl, hgb, hgl, hcell⟩ := hcl (by omega)
            subst hv'
            have hkr := (HCr.out.ks xs[i] (List.getElem_mem hil)).reads
            have HST : Hid (ltK K xs[i].k → Behind xs i K) := fun h => behind_step HBh.out hil h
            have HLO : Hid (ltK xs[i].k K → (i + 1 = 0 ∨ ∃ (h0 : i + 1 - 1 < xs.length), ltK xs[i + 1 - 1].k K)) := fun h => .inr ⟨by simpa using hil, by simpa using h⟩
            have HMO : Hid (∀ (wr' W : World) (cur : Array Value), FoI R wm its w1 k xs (.slice (some ⟨g, 0, none⟩) xs.length cap') wr' → xs[i].k = K → wr'.heap[g]? = some (.cells cur 56) → StW wr' W g (i * 7 + 1) cur 56 (a6 (mrg xs[i].a X.a)) → FoI R wm its w1 (k + 1) (xs.set i ⟨xs[i].kv, xs[i].k, mrg xs[i].a X.a⟩) (.slice (some ⟨g, 0, none⟩) xs.length cap') W) := fun wr' W cur h1 h3 h4 h5 => HMOR.out wr' W g cap' cur i K h1 HNX.out hil h3 h4 h5
            have hca := HCr.out.c xs[i] (List.getElem_mem hil)
            have c0 := (hcell i hil 0 (by decide)).1
            have c1 := (hcell i hil 1 (by decide)).1
            have c2 := (hcell i hil 2 (by decide)).1
            have c3 := (hcell i hil 3 (by decide)).1
            have c4 := (hcell i hil 4 (by decide)).1
            have c5 := (hcell i hil 5 (by decide)).1
            have c6 := (hcell i hil 6 (by decide)).1
            obtain ⟨Y, HY⟩ := hid_ex xs[i]
            rw [← HY.out] at hkr HST HLO HMO hca c0 c1 c2 c3 c4 c5 c6
            simp only [Go.Proofs.YthicmbjiblbcmaaGreat.c7, List.getElem_cons_zero, List.getElem_cons_succ] at c0 c1 c2 c3 c4 c5 c6
            rw [show 7 * i + 0 = i * 7 by omega] at c0
            rw [show 7 * i + 1 = i * 7 + 1 by omega] at c1
            rw [show 7 * i + 2 = i * 7 + 1 + 1 by omega] at c2
            rw [show 7 * i + 3 = i * 7 + 1 + 2 by omega] at c3
            rw [show 7 * i + 4 = i * 7 + 1 + 3 by omega] at c4
            rw [show 7 * i + 5 = i * 7 + 1 + 4 by omega] at c5
            rw [show 7 * i + 6 = i * 7 + 1 + 5 by omega] at c6
            obtain ⟨ay, cy, hyf, _⟩ := hkr.form
            obtain ⟨yn, Hyn⟩ := hid_ex Y.k.length
            rw [← Hyn.out] at hyf
            rw [hyf] at c0 hkr
            have HKR : Hid (Reads wr (.slice ay yn cy) Y.k) := hkr
            have HOr0 : Hid (Reads wr (.slice sk kn ck) K) := (HO5.out.below HWr.out).reads
            have hn1 : xs.length ≤ 100000 := HXL.out
            obtain ⟨cc, HCC⟩ := hid_ex (Lib.compareBytes Y.k K)
            obtain ⟨rx, Hrx⟩ := row_block HCr.out.r
            clear hcl hcell hkr HY
            by_cases h3 : Y.k = K
            · have hc0 : (cc == 0) = true := by rw [HCC.out, h3, cmp_refl]; rfl
              have H3 : Hid (Y.k = K) := h3
              clear h3
              go_wp2_with fail
              refine (cmp_any _ _ Y.k K _ HKR.out HOr0.out).mono ?_
              rw [← HCC.out]
              rintro e w7 ⟨rfl, hw7⟩
              rw [hw7]
              clear hw7 w7
              go_wp2_with fail
              have d3 := (cell_row HXr.out 3 (by simp)).1
              have d4 := (cell_row HXr.out 4 (by simp)).1
              have d5 := (cell_row HXr.out 5 (by simp)).1
              have d6 := (cell_row HXr.out 6 (by simp)).1
              have d7 := (cell_row HXr.out 7 (by simp)).1
              have d8 := (cell_row HXr.out 8 (by simp)).1
              simp only [List.getElem_toArray, List.getElem_cons_zero, List.getElem_cons_succ] at d3 d4 d5 d6 d7 d8
              have hbxl : bx < wr.heap.size := (Array.getElem?_eq_some_iff.1 HXr.out).1
              have hgl2 : g < wr.heap.size := (Array.getElem?_eq_some_iff.1 Hrx).1
              have HRX : Hid _ := Hrx
              refine wp_region_noPanic ?_
              refine wp_region_S 14 (fun _ => True) (fun w' => w'.cell? ⟨g, i * 7 + 1, none⟩ = some (.int .u64 Y.a.c) ∧ w'.cell? ⟨g, i * 7 + 1 + 1, none⟩ = some (.bool Y.a.o) ∧ w'.cell? ⟨g, i * 7 + 1 + 2, none⟩ = some (.int .i64 (hi Y.a.s)) ∧ w'.cell? ⟨g, i * 7 + 1 + 3, none⟩ = some (.int .u64 (lo Y.a.s)) ∧ w'.cell? ⟨g, i * 7 + 1 + 4, none⟩ = some (.int .i64 Y.a.mn) ∧ w'.cell? ⟨g, i * 7 + 1 + 5, none⟩ = some (.int .i64 Y.a.mx) ∧ w'.cell? ⟨bx, 3, none⟩ = some (.int .u64 X.a.c) ∧ w'.cell? ⟨bx, 4, none⟩ = some (.bool X.a.o) ∧ w'.cell? ⟨bx, 5, none⟩ = some (.int .i64 (hi X.a.s)) ∧ w'.cell? ⟨bx, 6, none⟩ = some (.int .u64 (lo X.a.s)) ∧ w'.cell? ⟨bx, 7, none⟩ = some (.int .i64 X.a.mn) ∧ w'.cell? ⟨bx, 8, none⟩ = some (.int .i64 X.a.mx)) (by kernel_rfl) ?_ ?_ (fun hHeld => ?_)
              · trivial
              · exact ⟨c1, c2, c3, c4, c5, c6, d3, d4, d5, d6, d7, d8⟩
              refine wpAnyS_take (i := 0) (v := .slice (some ⟨g, 0, none⟩) xs.length cap') _ rfl (by kernel_rfl) (by kernel_rfl) (by kernel_rfl) (by kernel_rfl) (by kernel_rfl) rfl (fun _ _ _ h => h) (Or.inl ⟨by rfl, ?_⟩) hHeld (fun hHeld => ?_)
              · (intro w1 hSw; have hSw := hSw.1; (try dsimp only at hSw); go_simp)
              simp only [List.getElem_toArray, List.getElem_cons_zero, Act.put, List.setIfInBounds_toArray, List.set_cons_zero, List.set_cons_succ]
              refine wpAnyS_take (i := 1) (v := .int .i64 ((i : Int) + 1)) _ rfl (by kernel_rfl) (by kernel_rfl) (by kernel_rfl) (by kernel_rfl) (by kernel_rfl) rfl (fun _ _ _ h => h) (Or.inl ⟨by rfl, ?_⟩) hHeld (fun hHeld => ?_)
              · (intro w1 hSw; have hSw := hSw.1; (try dsimp only at hSw); go_simp)
              simp only [List.getElem_toArray, List.getElem_cons_succ, List.getElem_cons_zero, Act.put, List.setIfInBounds_toArray, List.set_cons_zero, List.set_cons_succ]
              refine wpAnyS_take (i := 2) (v := .int .i64 (i : Int)) _ rfl (by kernel_rfl) (by kernel_rfl) (by kernel_rfl) (by kernel_rfl) (by kernel_rfl) rfl (fun _ _ _ h => h) (Or.inl ⟨by rfl, ?_⟩) hHeld (fun hHeld => ?_)
              · (intro w1 hSw; have hSw := hSw.1; (try dsimp only at hSw); go_simp; (rw [IntKind.wrap_i64]; omega))
              simp only [List.getElem_toArray, List.getElem_cons_succ, List.getElem_cons_zero, Act.put, List.setIfInBounds_toArray, List.set_cons_zero, List.set_cons_succ]
              refine wpAnyS_take (i := 3) (v := .slice (some ⟨g, 0, none⟩) xs.length cap') _ rfl (by kernel_rfl) (by kernel_rfl) (by kernel_rfl) (by kernel_rfl) (by kernel_rfl) rfl (fun _ _ _ h => h) (Or.inl ⟨by rfl, ?_⟩) hHeld (fun hHeld => ?_)
              · (intro w1 hSw; have hSw := hSw.1; (try dsimp only at hSw); go_simp)
              simp only [List.getElem_toArray, List.getElem_cons_succ, List.getElem_cons_zero, Act.put, List.setIfInBounds_toArray, List.set_cons_zero, List.set_cons_succ]
              refine wpAnyS_take (i := 4) (v := .int .i64 ((i : Int) + 1)) _ rfl (by kernel_rfl) (by kernel_rfl) (by kernel_rfl) (by kernel_rfl) (by kernel_rfl) rfl (fun _ _ _ h => h) (Or.inl ⟨by rfl, ?_⟩) hHeld (fun hHeld => ?_)
              · (intro w1 hSw; have hSw := hSw.1; (try dsimp only at hSw); go_simp)
              simp only [List.getElem_toArray, List.getElem_cons_succ, List.getElem_cons_zero, Act.put, List.setIfInBounds_toArray, List.set_cons_zero, List.set_cons_succ]
              refine wpAnyS_take (i := 5) (v := .int .i64 (i : Int)) _ rfl (by kernel_rfl) (by kernel_rfl) (by kernel_rfl) (by kernel_rfl) (by kernel_rfl) rfl (fun _ _ _ h => h) (Or.inl ⟨by rfl, ?_⟩) hHeld (fun hHeld => ?_)
              · (intro w1 hSw; have hSw := hSw.1; (try dsimp only at hSw); go_simp; (rw [IntKind.wrap_i64]; omega))
              simp only [List.getElem_toArray, List.getElem_cons_succ, List.getElem_cons_zero, Act.put, List.setIfInBounds_toArray, List.set_cons_zero, List.set_cons_succ]
              refine wpAnyS_take (i := 6) (v := .pointer (some ⟨g, i * 7, none⟩)) _ rfl (by kernel_rfl) (by kernel_rfl) (by kernel_rfl) (by kernel_rfl) (by kernel_rfl) rfl (fun _ _ _ h => h) (Or.inl ⟨by rfl, ?_⟩) hHeld (fun hHeld => ?_)
              · (intro w1 hSw; have hSw := hSw.1; (try dsimp only at hSw); go_simp)
              simp only [List.getElem_toArray, List.getElem_cons_succ, List.getElem_cons_zero, Act.put, List.setIfInBounds_toArray, List.set_cons_zero, List.set_cons_succ]
              refine wpAnyS_take (i := 7) (v := .pointer (some ⟨g, i * 7 + 1, none⟩)) _ rfl (by kernel_rfl) (by kernel_rfl) (by kernel_rfl) (by kernel_rfl) (by kernel_rfl) rfl (fun _ _ _ h => h) (Or.inl ⟨by rfl, ?_⟩) hHeld (fun hHeld => ?_)
              · (intro w1 hSw; have hSw := hSw.1; (try dsimp only at hSw); go_simp)
              simp only [List.getElem_toArray, List.getElem_cons_succ, List.getElem_cons_zero, Act.put, List.setIfInBounds_toArray, List.set_cons_zero, List.set_cons_succ]
              refine wpAnyS_take (i := 8) (v := .agg #[.int .u64 Y.a.c, .bool Y.a.o, .int .i64 (hi Y.a.s), .int .u64 (lo Y.a.s), .int .i64 Y.a.mn, .int .i64 Y.a.mx]) true rfl (by kernel_rfl) (by kernel_rfl) (by kernel_rfl) (by kernel_rfl) (by kernel_rfl) (by kernel_rfl) (fun _ _ _ h => h) (Or.inl ⟨by rfl, ?_⟩) hHeld (fun hHeld => ?_)
              · (intro w1 hSw; have hSw2 := hSw.2 rfl; have hSw := hSw.1; (try dsimp only at hSw hSw2); go_simp)
              simp only [List.getElem_toArray, List.getElem_cons_succ, List.getElem_cons_zero, Act.put, List.setIfInBounds_toArray, List.set_cons_zero, List.set_cons_succ]
              refine wpAnyS_take (i := 9) (v := .pointer (some ⟨bx, 3, none⟩)) _ rfl (by kernel_rfl) (by kernel_rfl) (by kernel_rfl) (by kernel_rfl) (by kernel_rfl) rfl (fun _ _ _ h => h) (Or.inl ⟨by rfl, ?_⟩) hHeld (fun hHeld => ?_)
              · (intro w1 hSw; have hSw := hSw.1; (try dsimp only at hSw); go_simp)
              simp only [List.getElem_toArray, List.getElem_cons_succ, List.getElem_cons_zero, Act.put, List.setIfInBounds_toArray, List.set_cons_zero, List.set_cons_succ]
              refine wpAnyS_take (i := 10) (v := .agg #[.int .u64 X.a.c, .bool X.a.o, .int .i64 (hi X.a.s), .int .u64 (lo X.a.s), .int .i64 X.a.mn, .int .i64 X.a.mx]) true rfl (by kernel_rfl) (by kernel_rfl) (by kernel_rfl) (by kernel_rfl) (by kernel_rfl) (by kernel_rfl) (fun _ _ _ h => h) (Or.inl ⟨by rfl, ?_⟩) hHeld (fun hHeld => ?_)
              · (intro w1 hSw; have hSw2 := hSw.2 rfl; have hSw := hSw.1; (try dsimp only at hSw hSw2); go_simp)
              simp only [List.getElem_toArray, List.getElem_cons_succ, List.getElem_cons_zero, Act.put, List.setIfInBounds_toArray, List.set_cons_zero, List.set_cons_succ]
              refine wpAnyS_ready (i := 11) (by kernel_rfl) rfl (fun K hK => ?_)
              go_simp
              refine (merge_any Y.a X.a hca.1 hca.2 HAOK.out.1 HAOK.out.2 _).mono ?_
              rintro e wm' ⟨rfl, hbm0⟩
              have hbm : Below wr.heap.size wr wm' := (Below.refl wr.heap.size wr).drew.trans hbm0
              go_simp
              refine hK.out _ _ ⟨?_, fun _ => ?_⟩ (fun hHeld => ?_)
              · trivial
              · exact ⟨(hbm.cell (p := ⟨g, _, none⟩) hgl2).trans c1, (hbm.cell (p := ⟨g, _, none⟩) hgl2).trans c2, (hbm.cell (p := ⟨g, _, none⟩) hgl2).trans c3, (hbm.cell (p := ⟨g, _, none⟩) hgl2).trans c4, (hbm.cell (p := ⟨g, _, none⟩) hgl2).trans c5, (hbm.cell (p := ⟨g, _, none⟩) hgl2).trans c6, (hbm.cell (p := ⟨bx, _, none⟩) hbxl).trans d3, (hbm.cell (p := ⟨bx, _, none⟩) hbxl).trans d4, (hbm.cell (p := ⟨bx, _, none⟩) hbxl).trans d5, (hbm.cell (p := ⟨bx, _, none⟩) hbxl).trans d6, (hbm.cell (p := ⟨bx, _, none⟩) hbxl).trans d7, (hbm.cell (p := ⟨bx, _, none⟩) hbxl).trans d8⟩
              clear hK K
              refine wpAnyS_take (i := 12) (v := .pointer (some ⟨g, i * 7, none⟩)) _ rfl (by kernel_rfl) (by kernel_rfl) (by kernel_rfl) (by kernel_rfl) (by kernel_rfl) rfl (fun _ _ _ h => h) (Or.inl ⟨by rfl, ?_⟩) hHeld (fun hHeld => ?_)
              · (intro w1 hSw; have hSw := hSw.1; (try dsimp only at hSw); go_simp)
              simp only [List.getElem_toArray, List.getElem_cons_succ, List.getElem_cons_zero, Act.put, List.setIfInBounds_toArray, List.set_cons_zero, List.set_cons_succ]
              refine wpAnyS_take (i := 13) (v := .pointer (some ⟨g, i * 7 + 1, none⟩)) _ rfl (by kernel_rfl) (by kernel_rfl) (by kernel_rfl) (by kernel_rfl) (by kernel_rfl) rfl (fun _ _ _ h => h) (Or.inl ⟨by rfl, ?_⟩) hHeld (fun hHeld => ?_)
              · (intro w1 hSw; have hSw := hSw.1; (try dsimp only at hSw); go_simp)
              simp only [List.getElem_toArray, List.getElem_cons_succ, List.getElem_cons_zero, Act.put, List.setIfInBounds_toArray, List.set_cons_zero, List.set_cons_succ]
              have HCm : Hid (FoI R wm its w1 k xs (.slice (some ⟨g, 0, none⟩) xs.length cap') wm') := HCr.out.below hbm
              have hcm := (hbm.block _ hgl2).trans HRX.out
              have hfit : i * 7 + 1 + 6 ≤ rx.size := by
                rcases HCr.out.r.2 with ⟨q, _⟩ | ⟨g', c', cur0, q, _, hw, hc1, _, hs, _⟩
                · simp at q
                · simp at q
                  obtain ⟨rfl, rfl⟩ := q
                  have e9 := HRX.out
                  rw [hw] at e9
                  simp at e9
                  subst e9
                  omega
              refine wpAnyS_ready (i := 14) (by kernel_rfl) rfl (fun K hK => ?_)
              rw [if_pos (by rfl)]
              refine wp_storeN _ _ _ rfl g (i * 7 + 1) (a6 (mrg Y.a X.a)) rfl rfl rx _ hcm hfit (by kernel_rfl) (by kernel_rfl) (fun W0 hW0 => ?_)
              refine hK.out _ _ ⟨?_, fun hno => absurd hno (by decide)⟩ (fun hHeld => ?_)
              · trivial
              clear hK K
              refine wpAnyS_done (by kernel_rfl) ?_ _
              refine NoPanic.normal ?_
              have HN8 : Hid (FoI R wm its w1 (k + 1) (xs.set i ⟨Y.kv, Y.k, mrg Y.a X.a⟩) (.slice (some ⟨g, 0, none⟩) xs.length cap') W0) := HMO.out wm' W0 rx HCm.out H3.out hcm hW0
              clear hW0 hbm hbm0 c0 c1 c2 c3 c4 c5 c6 d3 d4 d5 d6 d7 d8 hcm hfit
              go_wp2_with fail
              go_roundw
              case rel => exact ⟨k + 1, _, by go_num, by omega, HN8⟩
              case measure => simp [intOf]; omega
            · have hc0 : (cc == 0) = false := by rw [HCC.out, beq_eq_false_iff_ne]; exact fun h => h3 (cmp_zero h)
              by_cases h4 : ltK Y.k K
              · have hc1 : cc < 0 := by rw [HCC.out]; unfold ltK at h4; rw [h4]; decide
                have HAH : Hid (i + 1 = 0 ∨ ∃ (h0 : i + 1 - 1 < xs.length), ltK xs[i + 1 - 1].k K) := HLO.out h4
                clear h3 h4
                go_wp2_with fail
                refine (cmp_any _ _ Y.k K _ HKR.out HOr0.out).mono ?_
                rw [← HCC.out]
                rintro e w7 ⟨rfl, hw7⟩
                rw [hw7]
                clear hw7 w7 c0 c1 c2 c3 c4 c5 c6
                have HOr : Hid (Own wr w1.heap.size (.slice sk kn ck) K) := HO5.out.below HWr.out
                have HVB : Hid ((Value.slice (some ⟨g, 0, none⟩) xs.length cap').ownBlock ≠ some wr.heap.size) := fun e => by have := (World.ownsRow.lt HCr.out.r _ e).2; omega
                have d3 := (cell_row HXr.out 3 (by simp)).1
                have d4 := (cell_row HXr.out 4 (by simp)).1
                have d5 := (cell_row HXr.out 5 (by simp)).1
                have d6 := (cell_row HXr.out 6 (by simp)).1
                have d7 := (cell_row HXr.out 7 (by simp)).1
                have d8 := (cell_row HXr.out 8 (by simp)).1
                simp only [List.getElem_toArray, List.getElem_cons_zero, List.getElem_cons_succ] at d3 d4 d5 d6 d7 d8
                obtain ⟨w7, HW7⟩ := hid_ex (wr.alloc (.cells #[.slice sk kn ck, .int .u64 X.a.c, .bool X.a.o, .int .i64 (hi X.a.s), .int .u64 (lo X.a.s), .int .i64 X.a.mn, .int .i64 X.a.mx] 56))
                have hb7 : Below wr.heap.size wr w7 := by rw [HW7.out]; exact new_below _ _
                have HC7 : Hid (FoI R wm its w1 k xs (Value.slice (some ⟨g, 0, none⟩) xs.length cap') w7) := HCr.out.below hb7
                have HN7 : Hid (w7.heap[wr.heap.size]? = some (.cells (c7 ⟨.slice sk kn ck, K, X.a⟩).toArray 56)) := by rw [HW7.out]; exact heap_alloc_new _ _
                have HLE : Hid (w1.heap.size ≤ w7.heap.size) := HC7.out.b.size
                have HKO : Hid (∀ x ∈ xs, x.kv.oneCell' = true) := fun x hx => own_one (HCr.out.ks x hx)
                clear hb7
                go_wp2_with fail
                rw [← HW7.out]
                refine (insert_any (Value.slice (some ⟨g, 0, none⟩) xs.length cap') xs (i + 1) ⟨.slice sk kn ck, K, X.a⟩ _ w1.heap.size wr.heap.size HC7.out.r (by have := HXL.out; omega) hj HLE.out HVB.out HKO.out rfl HN7.out).mono ?_
                rintro e w8 ⟨v8, rfl, hown8, hg8⟩
                have HN8 : Hid (FoI R wm its w1 (k + 1) (insE xs (i + 1) ⟨.slice sk kn ck, K, X.a⟩) v8 w8) := HPUT.out wr w8 (Value.slice (some ⟨g, 0, none⟩) xs.length cap') v8 _ (i + 1) _ K HCr.out HNX.out hj HBh.out HAH.out HOr.out ⟨v8, rfl, hown8, by rw [← HW7.out]; exact hg8⟩
                clear hown8 hg8 d3 d4 d5 d6 d7 d8 HW7
                go_wp2_with fail
                go_roundw
                case rel => exact ⟨k + 1, _, by go_num, by omega, HN8⟩
                case measure => simp [intOf]; omega
              · have hc1 : ¬ cc < 0 := by rw [HCC.out]; have := cmp_ge.2 h4; omega
                have HBh2 : Hid (Behind xs i K) := HST.out (by rcases not_ltK.1 h4 with h | h; exact absurd h h3; exact h)
                clear h3 h4
                go_wp2_with fail
                refine (cmp_any _ _ Y.k K _ HKR.out HOr0.out).mono ?_
                rw [← HCC.out]
                rintro e w7 ⟨rfl, hw7⟩
                rw [hw7]
                clear hw7 w7
                clear c0 c1 c2 c3 c4 c5 c6
                go_wp2_with fail
                go_roundw
                case rel => exact ⟨i, by go_num, by omega, HBh2, HWr⟩
                case measure => simp [intOf]
    · obtain rfl : k = its.length := by omega
      have HE2 : Hid (FdPost R wm its w (.returned u7) wr) := HEnd.out _ _ _ HC.out
      go_wp2_with fail
      rw [Exit.noGoto_ret]
      go_ret
      exact HE2.out
end Go.Proofs.YthicmbjiblbcmaaGreat
