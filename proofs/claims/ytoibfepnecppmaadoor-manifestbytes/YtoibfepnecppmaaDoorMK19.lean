/- MY3x MY4x MY4y, joined. -/
import Derived.Test.YtoibfepnecppmaaDoorMK18
/- The reference of layer 13: Write. -/
namespace Go.Proofs.YtoibfepnecppmaaDoor
open Go.RowKit Go.Shelf

theorem okN_bad {l : List Int} {j : Nat} (hj : j < l.length) {x : Int} (hx : x = l[j]) (h : x < 0) : okN l = false := by
  unfold okN
  rw [List.all_eq_false]
  exact ⟨l[j], List.getElem_mem hj, by rw [← hx]; simp; omega⟩
theorem okN_end {l : List Int} (h : ∀ j (hj : j < l.length), 0 ≤ l[j]) : okN l = true := by
  unfold okN
  rw [List.all_eq_true]
  intro v hv
  obtain ⟨j, hj, rfl⟩ := List.getElem_of_mem hv
  simpa using h j hj
set_option maxRecDepth 100000 in
set_option maxHeartbeats 4000000 in
theorem refWrite13_any (dv av : Value) (x : Ed) (w : World) (h : EdR w dv av x) (hz : ∀ n c, dv = .slice none n c → c = 0) (hx : smI x) :
    Calls Tryd.prog 6 #[.agg #[dv, av, .int .i64 x.lo, .int .i64 x.ne, .int .i64 x.ma]] w fun e w' => ∃ v, e = .returned (.tuple #[v, .int .i64 (edE (edW x))]) ∧ Own w' w.heap.size v ((edW x).getD []) ∧ Below w.heap.size w w' := by
  obtain ⟨da, dc, rfl, hm1⟩ := h.d.form
  obtain ⟨aa, ac, rfl, hm2⟩ := h.a.form
  unfold maxLen at hm1 hm2
  have HE : Hid (EdR w (.slice da x.dr.length dc) (.slice aa x.ad.length ac) x) := h
  have HDZ : Hid (∀ n c, (Value.slice da x.dr.length dc) = .slice none n c → c = 0) := hz
  have HSm : Hid (smI x) := hx
  have HW : Hid (edW x = if 64 < x.dr.length ∨ 64 < x.ad.length then none else if okN (nmE x) = true then some (shB (nmE x)) else none) := rfl
  have hX0 : (w.alloc (.cells #[.slice da x.dr.length dc, .slice aa x.ad.length ac, .int .i64 x.lo, .int .i64 x.ne, .int .i64 x.ma] 34)).heap[w.heap.size]? = some (.cells #[.slice da x.dr.length dc, .slice aa x.ad.length ac, .int .i64 x.lo, .int .i64 x.ne, .int .i64 x.ma] 34) := heap_alloc_new _ _
  have HB0 : Hid (Below w.heap.size w (w.alloc (.cells #[.slice da x.dr.length dc, .slice aa x.ad.length ac, .int .i64 x.lo, .int .i64 x.ne, .int .i64 x.ma] 34))) := (Below.refl _ _).alloc (Nat.le_refl _) _
  obtain ⟨c0, c1, c2, c3, c4⟩ := five hX0
  clear h hx hX0 hz
  by_cases h1 : 64 < x.dr.length
  · have HN : Hid (edW x = none) := by unfold Hid; rw [HW.out, if_pos (.inl h1)]
    have h1' : (64 : Int) < (x.dr.length : Int) := by omega
    clear HW
    go_enter Tryd.func6, Tryd.ntmps6
    go_wp2_with fail
    go_ret2
    rw [HN.out]
    exact ⟨_, rfl, Own.nil _ _, HB0.out⟩
  · have h1' : ¬ (64 : Int) < (x.dr.length : Int) := by omega
    by_cases h2 : 64 < x.ad.length
    · have HN : Hid (edW x = none) := by unfold Hid; rw [HW.out, if_pos (.inr h2)]
      have h2' : (64 : Int) < (x.ad.length : Int) := by omega
      clear HW
      go_enter Tryd.func6, Tryd.ntmps6
      go_wp2_with fail
      go_ret2
      rw [HN.out]
      exact ⟨_, rfl, Own.nil _ _, HB0.out⟩
    · have h2' : ¬ (64 : Int) < (x.ad.length : Int) := by omega
      have HW2 : Hid (edW x = if okN (nmE x) = true then some (shB (nmE x)) else none) := by unfold Hid; rw [HW.out, if_neg (by omega)]
      have HC : Hid (Calls Tryd.prog 17 #[.agg #[.slice da x.dr.length dc, .slice aa x.ad.length ac, .int .i64 x.lo, .int .i64 x.ne, .int .i64 x.ma]] (w.alloc (.cells #[.slice da x.dr.length dc, .slice aa x.ad.length ac, .int .i64 x.lo, .int .i64 x.ne, .int .i64 x.ma] 34)) fun e w' => ∃ v, e = .returned v ∧ JR w' v (nmE x) ∧ Below w.heap.size w w') := (refNumbers_any _ _ x _ (HE.out.below HB0.out) HDZ.out (by omega) (by omega)).mono fun e w' ⟨v, q1, q2, q3⟩ => ⟨v, q1, q2, HB0.out.trans (q3.mono HB0.out.size)⟩
      have HL : Hid ((nmE x).length ≤ 1000) := by unfold Hid; rw [nmE_len]; omega
      obtain ⟨NL, HNL⟩ : ∃ n, Hid ((nmE x).length = n) := ⟨_, rfl⟩
      rw [HNL.out] at HL
      clear HW
      go_enter Tryd.func6, Tryd.ntmps6
      go_wp2_with fail
      refine HC.out.mono ?_
      rintro e w1 ⟨v1, rfl, hj1, hb1⟩
      obtain ⟨na, nc, rfl, hm⟩ := hj1.form
      rw [HNL.out] at hj1 hm ⊢
      unfold maxLen at hm
      have HJ1 : Hid (JR w1 (.slice na NL nc) (nmE x)) := hj1
      have HB1 : Hid (Below w.heap.size w w1) := hb1
      clear HC hj1 hb1 c0 c1 c2 c3 c4
      go_wp2_with fail
      go_loopw [5, 6] (fun o iv wr => ∃ i : Nat, iv = .int .i64 (i : Int) ∧ i ≤ NL ∧ Hid (∀ j (hj : j < (nmE x).length), j < i → 0 ≤ (nmE x)[j]) ∧ Hid (Own wr w1.heap.size o (shB ((nmE x).take i))) ∧ Hid (Below w1.heap.size w1 wr)) (fun _ iv _ => NL - (intOf iv).toNat)
      case atStart => exact ⟨0, rfl, by omega, fun j hj h => absurd h (by omega), Own.nil _ _, Below.refl _ _⟩
      case round =>
        obtain ⟨i, rfl, hi, HI, HO, HB⟩ := hrel
        have HBw : Hid (Below w.heap.size w wr) := HB1.out.trans (HB.out.mono HB1.out.size)
        by_cases hlt : i < NL
        · have hlt' : (i : Int) < (NL : Int) := by omega
          have hil : i < (nmE x).length := by rw [HNL.out]; exact hlt
          obtain ⟨y, Hy⟩ := hid_ex (nmE x)[i]
          obtain ⟨b, off, rfl, hbw, c0⟩ := (HJ1.out.below HB.out).at hil Hy.out
          have HY2 : Hid (y ≤ 9223372036854775807) := HSm.out y (by rw [Hy.out]; exact List.getElem_mem hil)
          by_cases hy : y < 0
          · have HBad : Hid (edW x = none) := by unfold Hid; rw [HW2.out, okN_bad hil Hy.out hy]; rfl
            go_wp2_with fail
            go_ret2
            rw [HBad.out]
            exact ⟨_, rfl, Own.nil _ _, HBw.out⟩
          · have HT : Hid (shB ((nmE x).take (i + 1)) = shB ((nmE x).take i) ++ sh y.toNat) := shB_take hil Hy.out
            have HI2 : Hid (∀ j (hj : j < (nmE x).length), j < i + 1 → 0 ≤ (nmE x)[j]) := fun j hj hji => by
              rcases Nat.lt_or_ge j i with h9 | h9
              · exact HI.out j hj h9
              · obtain rfl : j = i := by omega
                rw [← Hy.out]; omega
            have hln : (shB ((nmE x).take i)).length ≤ 10 * NL := by
              have h1 := shB_len ((nmE x).take i) fun z hz => by
                obtain ⟨k, hk, rfl⟩ := List.mem_take_iff_getElem.1 hz
                exact ⟨HI.out k (by omega) (by omega), HSm.out _ (List.getElem_mem _)⟩
              have h2 := List.length_take_le' i (nmE x)
              have := HNL.out
              omega
            have hy2 := HY2.out
            obtain ⟨n, rfl⟩ : ∃ n : Nat, y = (n : Int) := ⟨y.toNat, by omega⟩
            simp only [Int.toNat_natCast] at HT
            have hl2 : (sh n).length ≤ 10 := sh_le10 9 n (by have : (128 : Nat) ^ (9 + 1) = 1180591620717411303424 := by decide
                                                             omega)
            have hwr : IntKind.u64.wrap (n : Int) = (n : Int) := by simp [IntKind.wrap, IntKind.bits, IntKind.signed]; omega
            have HLl := HL.out
            obtain ⟨oa, oc, hov, _⟩ := HO.out.form
            obtain ⟨M, HM⟩ := hid_ex (shB ((nmE x).take i))
            rw [← HM.out] at HO hov hln HT
            subst hov
            clear HM
            go_wp2_with fail
            refine (refShort_any n (by omega) _).mono ?_
            rintro e w2 ⟨sv, rfl, hs, hb2⟩
            have HO2 : Hid (Own w2 w1.heap.size (.slice oa M.length oc) M) := HO.out.below hb2
            have HSr : Hid (Reads w2 sv (sh n)) := Own.reads hs
            have HB2 : Hid (Below w1.heap.size w1 w2) := HB.out.trans (hb2.mono HB.out.size)
            obtain ⟨sa, sc, hsv, _⟩ := HSr.out.form
            subst hsv
            clear hs hb2 c0
            go_wp2_with (at_builtin; refine wpList_app rfl _ _ rfl w1.heap.size _ _ M (sh n) _ rfl rfl rfl HO2.out HSr.out (by omega) HB2.out.size ?_; intro v3 w3 ho3 hb3; have HO3 : Hid (Own w3 w1.heap.size v3 (shB ((nmE x).take (i + 1)))) := (by unfold Hid; rw [HT.out]; exact ho3); have HB3 : Hid (Below w1.heap.size w1 w3) := HB2.out.trans hb3.out; clear ho3 hb3)
            go_roundw
            case rel => exact ⟨i + 1, by go_num, by omega, HI2, HO3, HB3⟩
            case measure => simp [intOf]; omega
        · have hlt' : ¬ (i : Int) < (NL : Int) := by omega
          have HOk : Hid (edW x = some (shB (nmE x))) := by
            unfold Hid
            rw [HW2.out, if_pos (okN_end fun j hj => HI.out j hj (by have := HNL.out; omega))]
          have HOe : Hid (Own wr w1.heap.size u5 (shB (nmE x))) := by
            have := HO.out
            rwa [List.take_of_length_le (by rw [HNL.out]; omega)] at this
          go_wp2_with fail
          go_ret2
          rw [HOk.out]
          exact ⟨_, rfl, HOe.out.mono HB1.out.size, HBw.out⟩
end Go.Proofs.YtoibfepnecppmaaDoor

/- The reference of layer 13: edit. -/
namespace Go.Proofs.YtoibfepnecppmaaDoor
open Go.RowKit Go.Shelf

/-- A slice of numbers, with its capacity. -/
structure JU (w : World) (v : Value) (l : List Int) : Prop where
  r : JR w v l
  c : ∀ a n cap, v = .slice a n cap → n ≤ cap ∧ cap ≤ maxLen
theorem JU.below {w w' : World} {v : Value} {l : List Int} (h : JU w v l) (hb : Below w.heap.size w w') : JU w' v l := ⟨h.r.below hb, h.c⟩
theorem gown_ju {w : World} {T : TypeId} {v : Value} {l : List Int} (h : GOwn w T 1 v l.length (l.map ji)) : JU w v l := ⟨gown_jr h, fun a n cap e => by
  obtain ⟨a', c', e', h1, h2, _⟩ := GOwn.form h
  rw [e'] at e
  simp only [Value.slice.injEq] at e
  omega⟩
theorem elemI : Tryd.prog.elem 22 = 3 := by kernel_rfl
theorem undI : Tryd.prog.underlying 22 = some (.slice (Tryd.prog.elem 22)) := by rw [elemI]; exact Tryd.underlying22
theorem sizeI (w : World) : (sizeOf 3).run Tryd.prog w = .ok 1 w := by
  simp [sizeOf]
  rfl
theorem jsl_lh {w : World} {b off N cap : Nat} {l : List Int} (h : JU w (.slice (some ⟨b, off, none⟩) N cap) l) (hN : l.length = N) {n : Nat} (hn : 1 + n < N) :
    (∀ w', (Instr.slice 22 (.slice (some ⟨b, off, none⟩) N cap) (some (.int .i64 1)) (some (.int .i64 (1 + (n : Int)))) none).run Tryd.prog w' = .ok (.slice (some ⟨b, off + 1, none⟩) n (cap - 1)) w') ∧ JR w (.slice (some ⟨b, off + 1, none⟩) n (cap - 1)) ((l.drop 1).take n) := by
  obtain ⟨h1, h2⟩ := h.c _ _ _ rfl
  unfold maxLen at h2
  have hl : ((l.drop 1).take n).length = n := by rw [List.length_take, List.length_drop]; omega
  refine ⟨fun w' => ?_, ⟨_, cap - 1, by rw [hl], by rw [hl]; unfold maxLen; omega, fun j hj => ?_⟩⟩
  · have e := run_slice_lh (P := Tryd.prog) w' 22 (some ⟨b, off, none⟩) N cap undI .i64 .i64 1 (1 + (n : Int)) (by omega) (by omega) (by omega)
    rw [e, elemI, sizeI]
    show Result.ok (Go.sliced (some ⟨b, off, none⟩) 1 (1 + (n : Int)).toNat cap 1) w' = _
    have e2 : (1 + (n : Int)).toNat = 1 + n := by omega
    rw [e2]
    unfold Go.sliced
    rw [if_neg (by omega), show 1 + n - 1 = n by omega]
    rfl
  · rw [hl] at hj
    obtain ⟨b', off', e', hb', hc'⟩ := h.r.at (j := j + 1) (by omega) rfl
    simp only [Option.some.injEq, Addr.mk.injEq, and_true] at e'
    obtain ⟨rfl, rfl⟩ := e'
    refine ⟨b, off + 1, rfl, hb', ?_⟩
    rw [show off + 1 + j = off + (j + 1) by omega, hc']
    simp [List.getElem_take]
theorem jsl_from {w : World} {b off N cap : Nat} {l : List Int} (h : JU w (.slice (some ⟨b, off, none⟩) N cap) l) (hN : l.length = N) {d : Nat} (hd : d ≤ N) :
    ∃ a', (∀ w', (Instr.slice 22 (.slice (some ⟨b, off, none⟩) N cap) (some (.int .i64 (d : Int))) none none).run Tryd.prog w' = .ok (.slice (some a') (N - d) (cap - d)) w') ∧ JR w (.slice (some a') (N - d) (cap - d)) (l.drop d) := by
  obtain ⟨h1, h2⟩ := h.c _ _ _ rfl
  unfold maxLen at h2
  have hl : (l.drop d).length = N - d := by rw [List.length_drop, hN]
  obtain ⟨a', ha⟩ : ∃ a', (if cap = d then some (⟨b, off, none⟩ : Addr) else (some (⟨b, off, none⟩ : Addr)).map (·.add (d * 1))) = some a' := by split <;> exact ⟨_, rfl⟩
  refine ⟨a', fun w' => ?_, ⟨_, cap - d, by rw [hl], by rw [hl]; unfold maxLen; omega, fun j hj => ?_⟩⟩
  · rw [run_slice_l _ _ _ _ _ undI _ _ (by omega) (by omega), elemI, sizeI]
    show Result.ok (Go.sliced (some ⟨b, off, none⟩) d N cap 1) w' = _
    unfold Go.sliced
    rw [ha]
  · rw [hl] at hj
    rw [if_neg (by omega)] at ha
    simp only [Option.map_some, Option.some.injEq] at ha
    obtain ⟨b', off', e', hb', hc'⟩ := h.r.at (j := d + j) (by omega) rfl
    simp only [Option.some.injEq, Addr.mk.injEq, and_true] at e'
    obtain ⟨rfl, rfl⟩ := e'
    have ea : (⟨b, off, none⟩ : Addr).add (d * 1) = ⟨b, off + d, none⟩ := by simp [Addr.add]
    rw [ea] at ha
    subst ha
    refine ⟨b, off + d, rfl, hb', ?_⟩
    rw [show off + d + j = off + (d + j) by omega, hc']
    simp [List.getElem_drop]
end Go.Proofs.YtoibfepnecppmaaDoor

/- The reference's edit: what stands while it is made. -/
namespace Go.Proofs.YtoibfepnecppmaaDoor
open Go.RowKit Go.Shelf

structure EdS (w W : World) (dv av : Value) (dr : List Int) (ad : List Ru) (x2 x3 x4 : Value) : Prop where
  b : Below w.heap.size w W
  z : W.heap[w.heap.size]? = some (.cells #[.slice none 0 0, .slice none 0 0, .int .i64 0, .int .i64 0, .int .i64 0] 34)
  x : W.heap[w.heap.size + 1]? = some (.cells #[dv, av, x2, x3, x4] 34)
  d : GOwn W 3 1 dv dr.length (dr.map ji)
  a : GOwn W 85 3 av ad.length (ad.flatMap r3L)
  dk : ∀ k, dv.ownBlock = some k → w.heap.size + 2 ≤ k ∧ k < W.heap.size
  ak : ∀ k, av.ownBlock = some k → w.heap.size + 2 ≤ k ∧ k < W.heap.size
section
variable {w W W' : World} {dv av : Value} {dr : List Int} {ad : List Ru} {x2 x3 x4 : Value}
theorem EdS.sz (h : EdS w W dv av dr ad x2 x3 x4) : w.heap.size + 1 < W.heap.size := (Array.getElem?_eq_some_iff.1 h.x).1
theorem EdS.below (h : EdS w W dv av dr ad x2 x3 x4) (hb : Below W.heap.size W W') : EdS w W' dv av dr ad x2 x3 x4 := by
  have hs := h.sz
  exact ⟨h.b.trans (hb.mono (by omega)), (hb.block _ (by omega)).trans h.z, (hb.block _ (by omega)).trans h.x, h.d.keep fun k e => hb.block k (h.dk k e).2, h.a.keep fun k e => hb.block k (h.ak k e).2, fun k e => ⟨(h.dk k e).1, Nat.lt_of_lt_of_le (h.dk k e).2 hb.size⟩, fun k e => ⟨(h.ak k e).1, Nat.lt_of_lt_of_le (h.ak k e).2 hb.size⟩⟩
theorem EdS.set0 {v' : Value} {dr' : List Int} (h : EdS w W dv av dr ad x2 x3 x4) (ho : Onl (fun k => dv.ownBlock = some k) W W') (hd : GOwn W' 3 1 v' dr'.length (dr'.map ji)) (hk : ∀ k, v'.ownBlock = some k → dv.ownBlock = some k ∨ (W.heap.size ≤ k ∧ k < W'.heap.size)) :
    W'.heap[w.heap.size + 1]? = some (.cells #[dv, av, x2, x3, x4] 34) ∧ EdS w (W'.setCell ⟨w.heap.size + 1, 0, none⟩ v') v' av dr' ad x2 x3 x4 := by
  have hs := h.sz
  have hsz := ho.size
  have lo : ∀ k, k < w.heap.size + 2 → W'.heap[k]? = W.heap[k]? := fun k hk => ho.block k (by omega) fun e => by have := (h.dk k e).1; omega
  have hx : W'.heap[w.heap.size + 1]? = some (.cells #[dv, av, x2, x3, x4] 34) := (lo _ (by omega)).trans h.x
  have hset : ∀ k, k ≠ w.heap.size + 1 → (W'.setCell ⟨w.heap.size + 1, 0, none⟩ v').heap[k]? = W'.heap[k]? := fun k hk => Go.heap_setCell_other _ _ _ _ hk
  have hb1 : Below w.heap.size W W' := ho.below (by omega) fun k e => by have := (h.dk k e).1; omega
  have hb2 : Below w.heap.size W (W'.setCell ⟨w.heap.size + 1, 0, none⟩ v') := hb1.setCell (by show w.heap.size ≤ w.heap.size + 1; omega) _
  have hne : ∀ k, dv.ownBlock = some k → av.ownBlock = some k → False := fun k e1 e2 => by
    obtain ⟨c1, g1⟩ := h.d.block e1
    obtain ⟨c2, g2⟩ := h.a.block e2
    exact ty_ne g1 g2 (by decide) rfl
  have hzs : (W'.setCell ⟨w.heap.size + 1, 0, none⟩ v').heap.size = W'.heap.size := by simp [World.setCell]
  refine ⟨hx, ⟨h.b.trans hb2, ?_, ?_, ?_, ?_, fun k e => ?_, fun k e => ?_⟩⟩
  · rw [hset _ (by omega), lo _ (by omega)]; exact h.z
  · rw [heap_setCell_same _ _ _ _ _ _ hx]; rfl
  · refine hd.keep fun k e => hset k ?_
    rcases hk k e with g | g
    · have := (h.dk k g).1; omega
    · omega
  · refine h.a.keep fun k e => ?_
    rw [hset k (by have := (h.ak k e).1; omega), ho.block k (h.ak k e).2 fun g => hne k g e]
  · rw [hzs]
    rcases hk k e with g | g
    · have := h.dk k g; omega
    · omega
  · rw [hzs]; have := h.ak k e; omega
theorem EdS.set1 {v' : Value} {ad' : List Ru} (h : EdS w W dv av dr ad x2 x3 x4) (ho : Onl (fun k => av.ownBlock = some k) W W') (hd : GOwn W' 85 3 v' ad'.length (ad'.flatMap r3L)) (hk : ∀ k, v'.ownBlock = some k → av.ownBlock = some k ∨ (W.heap.size ≤ k ∧ k < W'.heap.size)) :
    W'.heap[w.heap.size + 1]? = some (.cells #[dv, av, x2, x3, x4] 34) ∧ EdS w (W'.setCell ⟨w.heap.size + 1, 1, none⟩ v') dv v' dr ad' x2 x3 x4 := by
  have hs := h.sz
  have hsz := ho.size
  have lo : ∀ k, k < w.heap.size + 2 → W'.heap[k]? = W.heap[k]? := fun k hk => ho.block k (by omega) fun e => by have := (h.ak k e).1; omega
  have hx : W'.heap[w.heap.size + 1]? = some (.cells #[dv, av, x2, x3, x4] 34) := (lo _ (by omega)).trans h.x
  have hset : ∀ k, k ≠ w.heap.size + 1 → (W'.setCell ⟨w.heap.size + 1, 1, none⟩ v').heap[k]? = W'.heap[k]? := fun k hk => Go.heap_setCell_other _ _ _ _ hk
  have hb1 : Below w.heap.size W W' := ho.below (by omega) fun k e => by have := (h.ak k e).1; omega
  have hb2 : Below w.heap.size W (W'.setCell ⟨w.heap.size + 1, 1, none⟩ v') := hb1.setCell (by show w.heap.size ≤ w.heap.size + 1; omega) _
  have hne : ∀ k, dv.ownBlock = some k → av.ownBlock = some k → False := fun k e1 e2 => by
    obtain ⟨c1, g1⟩ := h.d.block e1
    obtain ⟨c2, g2⟩ := h.a.block e2
    exact ty_ne g1 g2 (by decide) rfl
  have hzs : (W'.setCell ⟨w.heap.size + 1, 1, none⟩ v').heap.size = W'.heap.size := by simp [World.setCell]
  refine ⟨hx, ⟨h.b.trans hb2, ?_, ?_, ?_, ?_, fun k e => ?_, fun k e => ?_⟩⟩
  · rw [hset _ (by omega), lo _ (by omega)]; exact h.z
  · rw [heap_setCell_same _ _ _ _ _ _ hx]; rfl
  · refine h.d.keep fun k e => ?_
    rw [hset k (by have := (h.dk k e).1; omega), ho.block k (h.dk k e).2 fun g => hne k e g]
  · refine hd.keep fun k e => hset k ?_
    rcases hk k e with g | g
    · have := (h.ak k g).1; omega
    · omega
  · rw [hzs]; have := h.dk k e; omega
  · rw [hzs]
    rcases hk k e with g | g
    · have := h.ak k g; omega
    · omega
theorem EdS.drops (h : EdS w W dv av [] ad x2 x3 x4) {vx : Value} {ns : List Int} (hx : JR W vx ns) (hz : ∀ n c, vx = .slice none n c → c = 0) (hl : ns.length < 1000000) :
    ∃ v' W', (Builtin.append_ #[22, 22] 22 #[dv, vx]).run Tryd.prog W = .ok v' W' ∧ W'.heap[w.heap.size + 1]? = some (.cells #[dv, av, x2, x3, x4] 34) ∧ EdS w (W'.setCell ⟨w.heap.size + 1, 0, none⟩ v') v' av ns ad x2 x3 x4 := by
  obtain ⟨i0, hi, hz0, hz1, hz2⟩ := info_parts infoI13
  obtain ⟨v', W', g1, g2, g3, g4⟩ := run_gapp (P := Tryd.prog) 22 22 3 i0 _ 1 8 Tryd.underlying22 hi hz0 hz1 hz2 rfl dv 0 [] h.d vx ns.length _ (src_jr hx hz) (by
    intro u hu
    obtain ⟨x, _, rfl⟩ := List.mem_map.1 hu
    rfl) (by simp only [maxLen]; omega) (by omega)
  obtain ⟨k1, k2⟩ := h.set0 (dr' := ns) (Onl.grown g3 fun k e => e) (by simpa using g2) g4
  exact ⟨v', W', g1, k1, k2⟩
theorem EdS.add (h : EdS w W dv av dr ad x2 x3 x4) (r : Ru) (hl : ad.length < 1000000) :
    ∃ v' W', (Builtin.append_ #[32, 32] 32 #[av, .slice (some ⟨W.heap.size, 0, none⟩) 1 1]).run Tryd.prog (W.alloc (.cells #[.int .i64 r.f, .int .i64 r.l, .int .i64 r.c] 85)) = .ok v' W' ∧ W'.heap[w.heap.size + 1]? = some (.cells #[dv, av, x2, x3, x4] 34) ∧ EdS w (W'.setCell ⟨w.heap.size + 1, 1, none⟩ v') dv v' dr (ad ++ [r]) x2 x3 x4 := by
  obtain ⟨i0, hi, hz0, hz1, hz2⟩ := info_parts infoV13
  obtain ⟨v', W', h1, h2, h3, h4⟩ := run_one 32 32 85 i0 _ 3 24 Tryd.underlying32 hi hz0 hz1 hz2 rfl av ad.length _ h.a (fun k e => (h.ak k e).2) (r3L r) rfl (by intro u hu; simp [r3L] at hu; rcases hu with rfl | rfl | rfl <;> rfl) hl (by decide)
  have hg : Onl (fun k => av.ownBlock = some k) W W' := (Onl.alloc _).then (Onl.grown h3 fun k e => e)
  have hd : GOwn W' 85 3 v' (ad ++ [r]).length ((ad ++ [r]).flatMap r3L) := by rw [List.length_append, List.flatMap_append]; simpa using h2
  obtain ⟨hx, hr⟩ := h.set1 hg hd h4
  exact ⟨v', W', h1, hx, hr⟩
theorem EdS.fin (h : EdS w W dv av dr ad x2 x3 x4) (a b c : Value) : EdS w (((W.setCell ⟨w.heap.size + 1, 2, none⟩ a).setCell ⟨w.heap.size + 1, 3, none⟩ b).setCell ⟨w.heap.size + 1, 4, none⟩ c) dv av dr ad a b c := by
  have hs := h.sz
  have hset : ∀ k, k ≠ w.heap.size + 1 → (((W.setCell ⟨w.heap.size + 1, 2, none⟩ a).setCell ⟨w.heap.size + 1, 3, none⟩ b).setCell ⟨w.heap.size + 1, 4, none⟩ c).heap[k]? = W.heap[k]? := fun k hk => by rw [Go.heap_setCell_other _ _ _ _ hk, Go.heap_setCell_other _ _ _ _ hk, Go.heap_setCell_other _ _ _ _ hk]
  have hb2 : Below w.heap.size W (((W.setCell ⟨w.heap.size + 1, 2, none⟩ a).setCell ⟨w.heap.size + 1, 3, none⟩ b).setCell ⟨w.heap.size + 1, 4, none⟩ c) := (((Below.refl _ _).setCell (by show w.heap.size ≤ w.heap.size + 1; omega) _).setCell (by show w.heap.size ≤ w.heap.size + 1; omega) _).setCell (by show w.heap.size ≤ w.heap.size + 1; omega) _
  have hzs : (((W.setCell ⟨w.heap.size + 1, 2, none⟩ a).setCell ⟨w.heap.size + 1, 3, none⟩ b).setCell ⟨w.heap.size + 1, 4, none⟩ c).heap.size = W.heap.size := by simp [World.setCell]
  refine ⟨h.b.trans hb2, (hset _ (by omega)).trans h.z, ?_, h.d.keep fun k e => hset k (by have := (h.dk k e).1; omega), h.a.keep fun k e => hset k (by have := (h.ak k e).1; omega), fun k e => by rw [hzs]; exact h.dk k e, fun k e => by rw [hzs]; exact h.ak k e⟩
  rw [heap_setCell_same _ _ _ _ _ _ (heap_setCell_same _ _ _ _ _ _ (heap_setCell_same _ _ _ _ _ _ h.x))]; rfl
end
end Go.Proofs.YtoibfepnecppmaaDoor
