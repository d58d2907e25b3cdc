/- AQU0 AQU X1 RI2 XD1, joined. -/
import Derived.Test.YtoenijflijfogaaRD3
import Derived.Test.YtoenijflijfogaaRD9
import Derived.Test.YtoenijflijfogaaRD13
import Derived.Test.YtoenijflijfogaaRD18
import Derived.Test.YtoenijflijfogaaRD26
import Derived.Test.YtoenijflijfogaaRD28
import Derived.Test.YtoenijflijfogaaRD29
/- Layer 17: what Rollup's loop keeps. -/
namespace Go.Proofs.Ytoenijflijfogaa
open Go.RowKit Go.Maps Go.Sort

theorem mayB_pt {D : List ByteArray} (h : mayB D = true) (m : Nat) : mayB (pt D m) = true := by
  rw [mayB_iff] at *
  refine ⟨Nat.le_trans (pt_len D m) h.1, fun s hs => h.2 s ?_⟩
  clear h
  induction D generalizing m with
  | nil => exact hs
  | cons x L ih =>
    rw [pt, List.mem_append] at hs
    rcases hs with hs | hs
    · split at hs
      · simp at hs; rw [hs]; exact List.mem_cons_self ..
      · cases hs
    · exact List.mem_cons_of_mem _ (ih _ hs)
theorem jn_short {D : List ByteArray} (h : mayB D = true) : (jn D).length ≤ 1000 := by
  obtain ⟨h1, h2⟩ := mayB_iff.1 h
  have := jb_short D h2
  unfold jn
  rw [List.length_append]
  simp only [List.length_cons, List.length_nil]
  omega
theorem mrg_pos17 {a b : Ag} (ha : Gd a) (hb : Gd b) (h : b.c ≠ 0) : (mrg a b).c ≠ 0 := by
  by_cases h1 : a.c = 0
  · unfold mrg; rw [if_pos h1]; exact h
  · rw [mrg_both a b h1 h]
    have c1 := ha.c.1
    have c2 := hb.c.1
    show cntF a.c b.c ≠ 0
    unfold cntF
    split <;> omega
theorem sreads_map {w W : World} {v : Value} {D : List ByteArray} {m : Nat} (h : SReads w v D) (hT : w.mapTurned W m) (hm : ∃ es clock, w.heap[m]? = some (.map es clock)) : SReads W v D := by
  have hg := hT.grown
  rcases h with h | ⟨b, off, cap, h1, h2, h3, h4, h5, h6, h7⟩
  · exact .inl h
  · refine .inr ⟨b, off, cap, h1, h2, h3, h4, Nat.lt_of_lt_of_le h5 hg.size, fun j hj => ?_, h7⟩
    have hne : b ≠ m := fun e => by
      obtain ⟨es, clock, hm⟩ := hm
      have := h6 j hj
      rw [e] at this
      simp [World.cell?, hm] at this
    rw [← h6 j hj]
    exact World.cell?_of_block (hg.block b h5 (by simpa using fun e : b = m => hne e))
theorem field17 (w : World) (u0 : Value) (f z c h l n x : Int) (o : Bool) : (Instr.field 43 (.agg #[u0, .int .i64 f, .int .i64 z, .int .u64 c, .bool o, .int .i64 h, .int .u64 l, .int .i64 n, .int .i64 x]) 3).run Try.prog w = .ok (.agg #[.int .u64 c, .bool o, .int .i64 h, .int .u64 l, .int .i64 n, .int .i64 x]) w := by kernel_rfl
/-- What Rollup's loop keeps. -/
structure RlI (V : World) (m mk : Nat) (f t : Int) (rows : List Rw) (k : Nat) (P : List It) (wr : World) : Prop where
  M : VMap wr m (vlI P)
  e : P.map itR = rollF mk f t (rows.take k)
  s : ∀ y ∈ P, SReads wr y.v y.D
  ok : ∀ y ∈ P, RwOk y
  b : Below m V wr
theorem RlI.below {V : World} {m mk : Nat} {f t : Int} {rows : List Rw} {k : Nat} {P : List It} {wr W : World} (h : RlI V m mk f t rows k P wr) (hb : Below wr.heap.size wr W) : RlI V m mk f t rows k P W := by
  have hlt := World.ownsMap.lt h.M
  exact ⟨h.M.keep (hb.block m hlt), h.e, fun y hy => (h.s y hy).below hb, h.ok, h.b.trans (hb.mono (by omega))⟩
theorem RlI.skip {V : World} {m mk : Nat} {f t : Int} {rows : List Rw} {k : Nat} {P : List It} {wr : World} (h : RlI V m mk f t rows k P wr) (hk : k < rows.length) (hi : inR f t rows[k] = false) : RlI V m mk f t rows (k + 1) P wr :=
  ⟨h.M, by rw [h.e, List.take_succ_eq_append_getElem hk, rollF_snoc, if_neg (by rw [hi]; simp)], h.s, h.ok, h.b⟩
theorem RlI.srt {V : World} {m mk : Nat} {f t : Int} {rows : List Rw} {k : Nat} {P : List It} {wr : World} (h : RlI V m mk f t rows k P wr) : (P.map itR).Pairwise (fun a b => lj a.D b.D) := by
  rw [h.e]; exact rollF_srt mk f t _
theorem RlI.put {V : World} {m mk : Nat} {f t : Int} {rows : List Rw} {k : Nat} {P : List It} {w W : World} {x : It} (h : RlI V m mk f t rows k P w) (hk : k < rows.length) (hi : inR f t rows[k] = true) (hx : itR x = pR mk f t rows[k])
    (hM : VMap W m (vPut (jn x.D, v9 { x with a := mrg (aggI x.D P) x.a }) (vlI P))) (hT : w.mapTurned W m) (hs : SReads w x.v x.D) (hok : RwOk x) : RlI V m mk f t rows (k + 1) (insI x P) W := by
  have hmp := h.M.isMap
  rw [vput_I h.srt] at hM
  refine ⟨hM, ?_, insI_all (p := fun y => SReads W y.v y.D) (fun _ _ => sreads_map hs hT hmp) (sreads_map hs hT hmp) (fun y hy => sreads_map (h.s y hy) hT hmp), insI_all (p := RwOk) (fun y hy => ⟨hok.m, hok.f, hok.z, hy.a.mrg hok.a, mrg_pos17 hy.a hok.a hok.c⟩) hok h.ok, h.b.grown hT.grown ?_ (fun k hk => by cases hk; exact Nat.le_refl _)⟩
  · rw [itR_ins, h.e, hx, List.take_succ_eq_append_getElem hk, rollF_snoc, if_pos hi]
  · exact Nat.le_trans (Nat.le_of_lt (World.ownsMap.lt h.M)) (Nat.le_refl _)
/-- What is known of a part's dimensions so far, as it is looked up. -/
theorem RlI.look {V : World} {m mk : Nat} {f t : Int} {rows : List Rw} {k : Nat} {P : List It} {w : World} (h : RlI V m mk f t rows k P w) {D : List ByteArray} (hD : mayB D = true) :
    ∃ y0 : It, (Instr.lookup 68 (.map (some m)) (.string ⟨(jn D).toArray⟩) false).run Try.prog w = .ok (v9 y0) w ∧ y0.a = aggI D P ∧ Gd y0.a := by
  have hlk := h.M.look Try.underlying68 (zeroRw17 w) (jn D) (by have := jn_short hD; unfold maxLen; omega)
  rw [vlook_I] at hlk
  cases hl : lookI D P with
  | none => exact ⟨itZ, by rw [hlk, hl]; rfl, by unfold aggI; rw [hl]; rfl, Gd.zero⟩
  | some y =>
    refine ⟨y, by rw [hlk, hl]; rfl, by unfold aggI; rw [hl], ?_⟩
    exact (h.ok y (List.mem_of_find?_eq_some hl)).a
end Go.Proofs.Ytoenijflijfogaa

/- Layer 17: the contract of ask.Rollup. -/
namespace Go.Proofs.Ytoenijflijfogaa
open Go.RowKit Go.Maps Go.Sort

/-- What Rollup says. -/
noncomputable def rlE (R : Rl) (wm : Int) (L : List En) (mk f t : Int) : Int := if chkF R wm L ≠ 0 then chkF R wm L else if mk < 0 then 1 else if 0 ≤ f ∧ f ≤ t ∧ t ≤ 1099511627776 then 0 else 1
noncomputable def rlQ (R : Rl) (wm : Int) (L : List En) (mk f t : Int) : List Rw := if rlE R wm L mk f t = 0 then rollF mk.toNat f t (rowsE R wm L) else []
theorem rlE_chk {R : Rl} {wm : Int} {L : List En} {mk f t : Int} (h : chkF R wm L ≠ 0) : rlE R wm L mk f t = chkF R wm L ∧ rlQ R wm L mk f t = [] := by
  have : rlE R wm L mk f t = chkF R wm L := by unfold rlE; rw [if_pos h]
  exact ⟨this, by unfold rlQ; rw [this, if_neg h]⟩
theorem rlE_neg {R : Rl} {wm : Int} {L : List En} {mk f t : Int} (h : chkF R wm L = 0) (h2 : mk < 0) : rlE R wm L mk f t = 1 ∧ rlQ R wm L mk f t = [] := by
  have : rlE R wm L mk f t = 1 := by unfold rlE; rw [if_neg (by simp [h]), if_pos h2]
  exact ⟨this, by unfold rlQ; rw [this, if_neg (by decide)]⟩
theorem rlE_rng {R : Rl} {wm : Int} {L : List En} {mk f t : Int} (h : chkF R wm L = 0) (h2 : ¬ mk < 0) (h3 : ¬ (0 ≤ f ∧ f ≤ t ∧ t ≤ 1099511627776)) : rlE R wm L mk f t = 1 ∧ rlQ R wm L mk f t = [] := by
  have : rlE R wm L mk f t = 1 := by unfold rlE; rw [if_neg (by simp [h]), if_neg h2, if_neg h3]
  exact ⟨this, by unfold rlQ; rw [this, if_neg (by decide)]⟩
theorem rlE_ok {R : Rl} {wm : Int} {L : List En} {mk f t : Int} (h : chkF R wm L = 0) (h2 : ¬ mk < 0) (h3 : 0 ≤ f ∧ f ≤ t ∧ t ≤ 1099511627776) : rlE R wm L mk f t = 0 ∧ rlQ R wm L mk f t = rollF mk.toNat f t (rowsE R wm L) := by
  have : rlE R wm L mk f t = 0 := by unfold rlE; rw [if_neg (by simp [h]), if_neg h2, if_pos h3]
  exact ⟨this, by unfold rlQ; rw [this, if_pos rfl]⟩
set_option maxRecDepth 100000 in
set_option maxHeartbeats 4000000 in
theorem roll17_any (R : Rl) (wm : Int) (v : Value) (L : List En) (mk f t : Int) (w : World) (hL : Lies R w.heap.size w) (hE : EReads w v L) (hl : L.length ≤ 100000) (hk : ∀ x ∈ L, x.1.length ≤ 1000) (hmr : mk ≤ 9223372036854775807) :
    Calls Try.prog 8 #[.agg #[.slice R.a R.len R.cap, .int .i64 R.kp], .int .i64 wm, v, .int .i64 mk, .int .i64 f, .int .i64 t] w (RwPost (rlQ R wm L mk f t) (rlE R wm L mk f t) w) := by
  obtain ⟨a, cap, rfl, hm1, hm2⟩ := hE.form
  obtain ⟨w1, HW1⟩ := hid_ex (w.alloc (.cells #[.slice R.a R.len R.cap, .int .i64 R.kp] 24))
  have hb1 : Below w.heap.size w w1 := by rw [HW1.out]; exact (Below.refl _ _).alloc (Nat.le_refl _) _
  have hX1 : w1.heap[w.heap.size]? = some (.cells #[.slice R.a R.len R.cap, .int .i64 R.kp] 24) := by rw [HW1.out]; exact heap_alloc_new _ _
  have c0 := (cell_row hX1 0 (by simp)).1
  have c1 := (cell_row hX1 1 (by simp)).1
  simp only [List.getElem_toArray, List.getElem_cons_zero, List.getElem_cons_succ] at c0 c1
  have HB1 : Hid (Below w.heap.size w w1) := hb1
  have HF : Hid (Calls Try.prog 16 #[.agg #[.slice R.a R.len R.cap, .int .i64 R.kp], .int .i64 wm, .slice a L.length cap] w1 (F17 R wm L w1)) := folded17_any R wm _ L _ (hL.at hb1) (hE.below hb1) hl hk
  have HLE : Hid ((rowsE R wm L).length ≤ 100000) := Nat.le_trans (rowsE_len R wm L) hl
  clear hL hE hl hk hb1 hX1
  obtain ⟨q, HQ⟩ := hid_ex (rlQ R wm L mk f t)
  obtain ⟨c, HC⟩ := hid_ex (rlE R wm L mk f t)
  rw [← HQ.out, ← HC.out]
  go_enter Try.func8, Try.ntmps8
  go_wp2_with fail
  rw [← HW1.out]
  clear HW1
  refine HF.out.mono ?_
  clear HF c0 c1
  rintro e w2 ⟨hb2, ⟨hne, rfl⟩ | ⟨hz, g, xs, rfl, hT, hm, hok⟩⟩
  · have hb0 : (chkF R wm L == 0) = false := by simp [hne]
    have hb0' : (chkF R wm L != 0) = true := by simp [hne]
    obtain ⟨h1, h2⟩ := rlE_chk (mk := mk) (f := f) (t := t) hne
    rw [← HC.out] at h1
    rw [← HQ.out] at h2
    subst h2
    have HEnd : Hid (RwPost [] c w (.returned (.tuple #[.slice none 0 0, .int .i64 (chkF R wm L)])) w2) := by rw [← h1]; exact RwPost.none (HB1.out.trans (hb2.mono HB1.out.size))
    clear hne hb2 h1 HC
    generalize chkF R wm L = rr at *
    go_wp2_with fail
    go_ret2
    exact HEnd.out
  · have HB2 : Hid (Below w.heap.size w w2) := HB1.out.trans (hb2.mono HB1.out.size)
    have HZ : Hid (chkF R wm L = 0) := hz
    have HOK : Hid (∀ x ∈ xs, RwOk x) := hok
    have HM : Hid (xs.map itR = rowsE R wm L) := hm
    have HXL : Hid (xs.length ≤ 100000) := by have := HLE.out; rw [← hm, List.length_map] at this; exact this
    obtain ⟨n, Hn⟩ := hid_ex xs.length
    rw [← Hn.out] at hT HXL ⊢
    have HT2 : Hid (TReads w2 (.slice (some ⟨g, 0, none⟩) n n) xs) := hT
    have hnl := HXL.out
    clear hz hok hm hT hb2 HB1
    by_cases hmk : mk < 0
    · obtain ⟨h1, h2⟩ := rlE_neg (f := f) (t := t) HZ.out hmk
      rw [← HC.out] at h1
      rw [← HQ.out] at h2
      subst h2
      have HEnd : Hid (RwPost [] c w (.returned (.tuple #[.slice none 0 0, .int .i64 1])) w2) := by rw [← h1]; exact RwPost.none HB2.out
      clear h1 HC
      go_wp2_with fail
      go_ret2
      exact HEnd.out
    · by_cases hrg : 0 ≤ f ∧ f ≤ t ∧ t ≤ 1099511627776
      · obtain ⟨h1, h2⟩ := rlE_ok (f := f) (t := t) HZ.out hmk hrg
        rw [← HC.out] at h1
        rw [← HQ.out] at h2
        subst h1
        obtain ⟨mn, rfl⟩ : ∃ mn : Nat, mk = (mn : Int) := ⟨mk.toNat, by omega⟩
        rw [Int.toNat_natCast] at h2
        have HQ2 : Hid (q = rollF mn f t (xs.map itR)) := by show q = _; rw [HM.out]; exact h2
        have HIR := isRange_any f t w2
        rw [decide_eq_true hrg] at HIR
        have HIR2 : Hid (Calls Try.prog 18 #[.int .i64 f, .int .i64 t] w2 fun e w' => e = .returned (.bool true) ∧ w' = w2) := HIR
        have hrg' : Hid (0 ≤ f ∧ f ≤ t ∧ t ≤ 1099511627776) := hrg
        have hmn : mn < 9223372036854775808 := by omega
        clear h2 HC HQ HIR HM HZ hrg
        go_wp2_with fail
        refine HIR2.out.mono ?_
        rintro e w' ⟨rfl, hw'⟩
        subst w'
        clear HIR2
        obtain ⟨w3, HW3⟩ := hid_ex (w2.alloc (.map #[] 0))
        have hb3 : Below w2.heap.size w2 w3 := by rw [HW3.out]; exact (Below.refl _ _).alloc (Nat.le_refl _) _
        have HI0 : Hid (RlI w2 w2.heap.size mn f t (xs.map itR) 0 [] w3) := ⟨by rw [HW3.out]; exact VMap.new w2, by rw [List.take_zero]; rfl, (fun y hy => by cases hy), (fun y hy => by cases hy), hb3⟩
        have hmm := @run_makeMap Try.prog
        clear hb3
        go_wp2_with fail
        rw [← HW3.out]
        clear HW3 hmm
        go_loopw [45] (fun i wr => ∃ (k : Nat) (P : List It), k ≤ n ∧ i = .int .i64 (k : Int) ∧ Hid (RlI w2 w2.heap.size mn f t (xs.map itR) k P wr)) (fun i _ => n - (intOf i).toNat)
        case atStart => exact ⟨0, [], by omega, rfl, HI0⟩
        case round =>
          clear HI0
          obtain ⟨k, P, hk, rfl, HG⟩ := hrel
          by_cases hlt : k < n
          · have hkx : k < xs.length := by rw [← Hn.out]; exact hlt
            have hkm : k < (xs.map itR).length := by rw [List.length_map]; exact hkx
            obtain ⟨b, off, hgb, hbl, hc9, hsr⟩ := TReads.at HT2.out hkx
            simp only [Option.some.injEq, Addr.mk.injEq] at hgb
            obtain ⟨rfl, hoff, _⟩ := hgb
            subst hoff
            have hokx := HOK.out xs[k] (List.getElem_mem hkx)
            have HNO : Hid (inR f t (itR xs[k]) = false → ∀ W, Below wr.heap.size wr W → RlI w2 w2.heap.size mn f t (xs.map itR) (k + 1) P W) := fun hi W hW => (HG.out.below hW).skip hkm (by rw [List.getElem_map]; exact hi)
            have HPUT : Hid (inR f t (itR xs[k]) = true → ∀ (w W : World) (x : It), RlI w2 w2.heap.size mn f t (xs.map itR) k P w → itR x = pR mn f t (itR xs[k]) → VMap W w2.heap.size (vPut (jn x.D, v9 { x with a := mrg (aggI x.D P) x.a }) (vlI P)) → w.mapTurned W w2.heap.size → SReads w x.v x.D → RwOk x → RlI w2 w2.heap.size mn f t (xs.map itR) (k + 1) (insI x P) W) := fun hi w W x h1 h2 h3 h4 h5 h6 => h1.put hkm (by rw [List.getElem_map]; exact hi) (by rw [List.getElem_map]; exact h2) h3 h4 h5 h6
            obtain ⟨X, HX⟩ := hid_ex xs[k]
            rw [← HX.out] at hc9 hsr hokx HNO HPUT
            obtain ⟨xv, xD, xf, xz, xg⟩ := X
            obtain ⟨va, vc, hv, hxl⟩ := hsr.form
            simp only at hv
            subst hv
            have hb2r : Below w2.heap.size w2 wr := HG.out.b
            have hy : ∀ i (hi : i < 9), wr.cell? ⟨g, k * 9 + i, none⟩ = some ((c9 ⟨.slice va xD.length vc, xD, xf, xz, xg⟩)[i]'hi) := fun i hi => by
              have := hc9 i hi
              rw [Nat.zero_add] at this
              exact (hb2r.cell (p := ⟨g, k * 9 + i, none⟩) hbl).trans this
            have y0 := hy 0 (by decide)
            have y1 := hy 1 (by decide)
            have y2 := hy 2 (by decide)
            have y3 := hy 3 (by decide)
            have y4 := hy 4 (by decide)
            have y5 := hy 5 (by decide)
            have y6 := hy 6 (by decide)
            have y7 := hy 7 (by decide)
            have y8 := hy 8 (by decide)
            simp only [c9, List.getElem_cons_zero, List.getElem_cons_succ, Nat.add_zero] at y0 y1 y2 y3 y4 y5 y6 y7 y8
            obtain ⟨hf0, hf1⟩ := hokx.f
            obtain ⟨hz0, hz1⟩ := hokx.z
            simp only at hf0 hf1 hz0 hz1
            have HOX : Hid (RwOk ⟨.slice va xD.length vc, xD, xf, xz, xg⟩) := hokx
            obtain ⟨w5, HW5⟩ := hid_ex (wr.alloc (.cells #[.slice va xD.length vc, .int .i64 xf, .int .i64 (xz : Int), .int .u64 xg.c, .bool xg.o, .int .i64 (hi xg.s), .int .u64 (lo xg.s), .int .i64 xg.mn, .int .i64 xg.mx] 43))
            have hb5 : Below wr.heap.size wr w5 := by rw [HW5.out]; exact new_below _ _
            have HX5 : Hid (w5.heap[wr.heap.size]? = some (.cells #[.slice va xD.length vc, .int .i64 xf, .int .i64 (xz : Int), .int .u64 xg.c, .bool xg.o, .int .i64 (hi xg.s), .int .u64 (lo xg.s), .int .i64 xg.mn, .int .i64 xg.mx] 43)) := by rw [HW5.out]; exact heap_alloc_new _ _
            have HSX5 : Hid (SReads w5 (.slice va xD.length vc) xD) := (hsr.below hb2r).below hb5
            have HG5 : Hid (RlI w2 w2.heap.size mn f t (xs.map itR) k P w5) := HG.out.below hb5
            have HB5 : Hid (Below wr.heap.size wr w5) := hb5
            have HWI : Hid (Calls Try.prog 20 #[.agg #[.slice va xD.length vc, .int .i64 xf, .int .i64 (xz : Int), .int .u64 xg.c, .bool xg.o, .int .i64 (hi xg.s), .int .u64 (lo xg.s), .int .i64 xg.mn, .int .i64 xg.mx], .int .i64 f, .int .i64 t] w5 fun e w' => e = .returned (.bool (decide (f ≤ xf ∧ xf < t))) ∧ Below w5.heap.size w5 w') := within_any ⟨.slice va xD.length vc, xD, xf, xz, xg⟩ f t w5
            have d0 := (cell_row HX5.out 0 (by simp)).1
            have d1 := (cell_row HX5.out 1 (by simp)).1
            have d2 := (cell_row HX5.out 2 (by simp)).1
            have d3 := (cell_row HX5.out 3 (by simp)).1
            have d4 := (cell_row HX5.out 4 (by simp)).1
            have d5 := (cell_row HX5.out 5 (by simp)).1
            have d6 := (cell_row HX5.out 6 (by simp)).1
            have d7 := (cell_row HX5.out 7 (by simp)).1
            have d8 := (cell_row HX5.out 8 (by simp)).1
            simp only [List.getElem_toArray, List.getElem_cons_zero, List.getElem_cons_succ] at d0 d1 d2 d3 d4 d5 d6 d7 d8
            rw [HW5.out] at d0 d1 d2 d3 d4 d5 d6 d7 d8
            clear hb5 hsr hokx hy hc9 hkx hkm HX HG hb2r
            go_wp2_with fail
            rw [← HW5.out]
            clear HW5 d0 d1 d2 d3 d4 d5 d6 d7 d8
            refine HWI.out.mono ?_
            clear HWI
            rintro e w6 ⟨rfl, hb6⟩
            have HX6 : Hid (w6.heap[wr.heap.size]? = some (.cells #[.slice va xD.length vc, .int .i64 xf, .int .i64 (xz : Int), .int .u64 xg.c, .bool xg.o, .int .i64 (hi xg.s), .int .u64 (lo xg.s), .int .i64 xg.mn, .int .i64 xg.mx] 43)) := (hb6.block _ (Array.getElem?_eq_some_iff.1 HX5.out).1).trans HX5.out
            have HB6 : Hid (Below wr.heap.size wr w6) := HB5.out.trans (hb6.mono HB5.out.size)
            have HG6 : Hid (RlI w2 w2.heap.size mn f t (xs.map itR) k P w6) := HG5.out.below hb6
            have HSX6 : Hid (SReads w6 (.slice va xD.length vc) xD) := HSX5.out.below hb6
            clear hb6 HX5 HG5 HB5 HSX5
            by_cases hin : f ≤ xf ∧ xf < t
            · rw [decide_eq_true hin]
              have HPU2 : Hid (∀ (w W : World) (x : It), RlI w2 w2.heap.size mn f t (xs.map itR) k P w → itR x = pR mn f t ⟨xD, xf, xz, xg⟩ → VMap W w2.heap.size (vPut (jn x.D, v9 { x with a := mrg (aggI x.D P) x.a }) (vlI P)) → w.mapTurned W w2.heap.size → SReads w x.v x.D → RwOk x → RlI w2 w2.heap.size mn f t (xs.map itR) (k + 1) (insI x P) W) := HPUT.out (by unfold inR itR; exact decide_eq_true hin)
              have HZt : Hid (1 ≤ t - f ∧ t - f ≤ 1099511627776) := ⟨by have := hrg'.out; omega, by have := hrg'.out; omega⟩
              obtain ⟨hf9, hft9, ht9⟩ : 0 ≤ f ∧ f ≤ t ∧ t ≤ 1099511627776 := hrg'.out
              obtain ⟨Z, HZ⟩ : ∃ Z : Nat, Hid (t - f = (Z : Int)) := ⟨(t - f).toNat, by have := HZt.out; show _ = _; omega⟩
              have HPC : Hid (Calls Try.prog 10 #[.slice va xD.length vc, .int .i64 (mn : Int)] w6 fun e w' => ∃ v', e = .returned (.tuple #[v', .int .i64 0]) ∧ SOwn w' w6.heap.size v' (pt xD mn) ∧ Below w6.heap.size w6 w') := part_any _ xD (by have := (mayB_iff.1 HOX.out.m).1; simp only at this; omega) mn hmn w6 HSX6.out
              have d0 := (cell_row HX6.out 0 (by simp)).1
              simp only [List.getElem_toArray, List.getElem_cons_zero] at d0
              clear hin HNO HPUT
              go_wp2_with fail
              refine HPC.out.mono ?_
              clear HPC d0
              rintro e w7 ⟨pv, rfl, hpo, hb7⟩
              have HP7 : Hid (SReads w7 pv (pt xD mn)) := hpo.reads
              have HX7 : Hid (w7.heap[wr.heap.size]? = some (.cells #[.slice va xD.length vc, .int .i64 xf, .int .i64 (xz : Int), .int .u64 xg.c, .bool xg.o, .int .i64 (hi xg.s), .int .u64 (lo xg.s), .int .i64 xg.mn, .int .i64 xg.mx] 43)) := (hb7.block _ (Array.getElem?_eq_some_iff.1 HX6.out).1).trans HX6.out
              have HG7 : Hid (RlI w2 w2.heap.size mn f t (xs.map itR) k P w7) := HG6.out.below hb7
              have HMP : Hid (mayB (pt xD mn) = true) := mayB_pt HOX.out.m mn
              have HGC : Hid (Calls Try.prog 21 #[pv] w7 fun e w' => ∃ v, e = .returned (.tuple #[v, .int .i64 0]) ∧ Own w' w7.heap.size v (jn (pt xD mn)) ∧ Below w7.heap.size w7 w') := group_yes pv (pt xD mn) HMP.out w7 HP7.out
              obtain ⟨p, Hp⟩ := hid_ex (pt xD mn)
              rw [← Hp.out] at HP7 HMP HGC
              obtain ⟨pa, pc, hpv, -⟩ := HP7.out.form
              obtain ⟨pn, Hpn⟩ := hid_ex p.length
              rw [← Hpn.out] at hpv
              subst hpv
              clear hpo hb7 HX6 HG6 HSX6 HB6
              go_wp2_with fail
              refine HGC.out.mono ?_
              clear HGC
              rintro e w8 ⟨gv, rfl, hgo, hb8⟩
              obtain ⟨s, Hs⟩ := hid_ex (jn p)
              rw [← Hs.out] at hgo
              have hgr := hgo.reads
              have HGR : Hid (Reads w8 gv s) := hgr
              have HP8 : Hid (SReads w8 (.slice pa pn pc) p) := HP7.out.below hb8
              have HX8 : Hid (w8.heap[wr.heap.size]? = some (.cells #[.slice va xD.length vc, .int .i64 xf, .int .i64 (xz : Int), .int .u64 xg.c, .bool xg.o, .int .i64 (hi xg.s), .int .u64 (lo xg.s), .int .i64 xg.mn, .int .i64 xg.mx] 43)) := (hb8.block _ (Array.getElem?_eq_some_iff.1 HX7.out).1).trans HX7.out
              have HG8 : Hid (RlI w2 w2.heap.size mn f t (xs.map itR) k P w8) := HG7.out.below hb8
              obtain ⟨y0, hlk, hya, hyg⟩ := HG8.out.look HMP.out
              rw [← Hs.out] at hlk
              have hcv := reads_text hgr
              obtain ⟨u0, uD, uf, uz, ua⟩ := y0
              simp only at hya hyg
              have HYA : Hid (ua = aggI p P) := hya
              have HYG : Hid (Gd ua) := hyg
              have HMC : Hid (Calls Try.prog 9 #[.agg #[.int .u64 ua.c, .bool ua.o, .int .i64 (hi ua.s), .int .u64 (lo ua.s), .int .i64 ua.mn, .int .i64 ua.mx], .agg #[.int .u64 xg.c, .bool xg.o, .int .i64 (hi xg.s), .int .u64 (lo xg.s), .int .i64 xg.mn, .int .i64 xg.mx]] w8 fun e w' => e = .returned (.agg #[.int .u64 (mrg ua xg).c, .bool (mrg ua xg).o, .int .i64 (hi (mrg ua xg).s), .int .u64 (lo (mrg ua xg).s), .int .i64 (mrg ua xg).mn, .int .i64 (mrg ua xg).mx]) ∧ Below w8.heap.size w8 w') := merge_any ua xg hyg.c.1 hyg.c.2 HOX.out.a.c.1 HOX.out.a.c.2 w8
              have d3 := (cell_row HX8.out 3 (by simp)).1
              have d4 := (cell_row HX8.out 4 (by simp)).1
              have d5 := (cell_row HX8.out 5 (by simp)).1
              have d6 := (cell_row HX8.out 6 (by simp)).1
              have d7 := (cell_row HX8.out 7 (by simp)).1
              have d8 := (cell_row HX8.out 8 (by simp)).1
              simp only [List.getElem_toArray, List.getElem_cons_zero, List.getElem_cons_succ] at d3 d4 d5 d6 d7 d8
              simp only [v9, c9] at hlk
              have hfd := field17
              obtain ⟨ga, gn, gc, hgv⟩ : ∃ ga gn gc, gv = .slice ga gn gc := by obtain ⟨a, c, h, _⟩ := hgr.form; exact ⟨a, _, c, h⟩
              subst hgv
              clear hgo hgr hb8 HX7 HG7 HP7 hya hyg
              go_wp2_with fail
              refine HMC.out.mono ?_
              clear HMC hlk hcv hfd d3 d4 d5 d6 d7 d8
              rintro e w9 ⟨rfl, hb9⟩
              obtain ⟨kn, Hkn⟩ := hid_ex (mrg ua xg)
              rw [← Hkn.out]
              obtain ⟨w10, HW10⟩ := hid_ex (w9.alloc (.cells #[.int .u64 kn.c, .bool kn.o, .int .i64 (hi kn.s), .int .u64 (lo kn.s), .int .i64 kn.mn, .int .i64 kn.mx] 40))
              have hb10 : Below w9.heap.size w9 w10 := by rw [HW10.out]; exact new_below _ _
              have hb810 : Below w8.heap.size w8 w10 := hb9.trans (hb10.mono hb9.size)
              have HK10 : Hid (w10.heap[w9.heap.size]? = some (.cells #[.int .u64 kn.c, .bool kn.o, .int .i64 (hi kn.s), .int .u64 (lo kn.s), .int .i64 kn.mn, .int .i64 kn.mx] 40)) := by rw [HW10.out]; exact heap_alloc_new _ _
              have HP10 : Hid (SReads w10 (.slice pa pn pc) p) := HP8.out.below hb810
              have HG10 : Hid (RlI w2 w2.heap.size mn f t (xs.map itR) k P w10) := HG8.out.below hb810
              have hcv := reads_text (HGR.out.below hb810)
              have e0 := (cell_row HK10.out 0 (by simp)).1
              have e1 := (cell_row HK10.out 1 (by simp)).1
              have e2 := (cell_row HK10.out 2 (by simp)).1
              have e3 := (cell_row HK10.out 3 (by simp)).1
              have e4 := (cell_row HK10.out 4 (by simp)).1
              have e5 := (cell_row HK10.out 5 (by simp)).1
              simp only [List.getElem_toArray, List.getElem_cons_zero, List.getElem_cons_succ] at e0 e1 e2 e3 e4 e5
              have hmap := HG10.out.M
              have hkey := keyS s (by rw [Hs.out]; have := jn_short HMP.out; unfold maxLen; omega)
              have hpl : (vlI P).length < maxLen := by
                rw [vlI_len]
                have h1 := congrArg List.length HG10.out.e
                have h2 := rollF_len mn f t ((xs.map itR).take k)
                rw [List.length_map] at h1
                rw [List.length_take, List.length_map, ← Hn.out] at h2
                unfold maxLen
                omega
              rw [HW10.out] at e0 e1 e2 e3 e4 e5 hcv hmap
              clear hb9 hb10 hb810 HX8 HG8 HP8 HGR
              go_wp2_with (go_loud (at_mapUpdate; refine wpList_mapUpdate_in _ rfl _ _ _ 68 rfl 9 43 keyedS Try.underlying68 anyE w2.heap.size (vlI P).length _ rfl hmap hpl _ _ _ rfl rfl hkey (.held (.agg #[.slice pa pn pc, .int .i64 f, .int .i64 (t - f), .int .u64 kn.c, .bool kn.o, .int .i64 (hi kn.s), .int .u64 (lo kn.s), .int .i64 kn.mn, .int .i64 kn.mx])) [] rfl ?_; intro w11 hown11 hturn11))
              rw [← HW10.out] at hturn11
              have HN : Hid (RlI w2 w2.heap.size mn f t (xs.map itR) (k + 1) (insI ⟨.slice pa pn pc, p, f, Z, xg⟩ P) w11) := by
                refine HPU2.out w10 w11 ⟨.slice pa pn pc, p, f, Z, xg⟩ HG10.out ?_ ?_ hturn11 HP10.out ⟨HMP.out, ⟨hf9, Int.le_trans hft9 ht9⟩, ⟨by have := HZ.out; have := HZt.out; show 1 ≤ Z; omega, by have := HZ.out; have := HZt.out; show Z ≤ 1099511627776; omega⟩, HOX.out.a, HOX.out.c⟩
                · unfold itR pR
                  rw [← Hp.out, HZ.out, Int.toNat_natCast]
                · have e : v9 ⟨.slice pa pn pc, p, f, Z, mrg (aggI p P) xg⟩ = .agg #[.slice pa pn pc, .int .i64 f, .int .i64 (t - f), .int .u64 kn.c, .bool kn.o, .int .i64 (hi kn.s), .int .u64 (lo kn.s), .int .i64 kn.mn, .int .i64 kn.mx] := by
                    rw [← HYA.out, ← Hkn.out, HZ.out]; rfl
                  show VMap w11 w2.heap.size (vPut (jn p, v9 ⟨.slice pa pn pc, p, f, Z, mrg (aggI p P) xg⟩) (vlI P))
                  rw [e, ← Hs.out]
                  exact .of hown11 (vD_put (s, _) _)
              clear hown11 hturn11
              go_wp2_with fail
              go_roundw
              case rel => exact ⟨k + 1, _, by omega, by go_num, HN⟩
              case measure => simp [intOf]; omega
            · rw [decide_eq_false hin]
              have HN : Hid (RlI w2 w2.heap.size mn f t (xs.map itR) (k + 1) P w6) := HNO.out (by unfold inR itR; exact decide_eq_false hin) w6 HB6.out
              clear hin HPUT HNO
              go_wp2_with fail
              go_roundw
              case rel => exact ⟨k + 1, P, by omega, by go_num, HN⟩
              case measure => simp [intOf]; omega
          · obtain rfl : k = n := by omega
            have HSC : Hid (Calls Try.prog 22 #[.map (some w2.heap.size)] wr fun e w' => ∃ v', e = .returned v' ∧ TReads w' v' P ∧ Below wr.heap.size wr w') := sorted17_any w2.heap.size P wr HG.out.M HG.out.srt HG.out.s (fun y hy => jn_short (HG.out.ok y hy).m) (by
              have h1 := congrArg List.length HG.out.e
              have h2 := rollF_len mn f t ((xs.map itR).take k)
              rw [List.length_map] at h1
              rw [List.length_take, List.length_map, ← Hn.out] at h2
              omega)
            have HBr : Hid (Below w.heap.size w wr) := HB2.out.trans (HG.out.b.mono HB2.out.size)
            have HOKP : Hid (∀ y ∈ P, RwOk y) := HG.out.ok
            have HPE : Hid (P.map itR = q) := by
              show _ = _
              rw [HG.out.e, HQ2.out, List.take_of_length_le (by rw [List.length_map, Hn.out]; exact Nat.le_refl _)]
            clear HG
            go_wp2_with fail
            refine HSC.out.mono ?_
            clear HSC
            rintro e w6 ⟨v6, rfl, hr6, hb6⟩
            have HEnd : Hid (∃ a cap, v6 = .slice a P.length cap ∧ RwPost q 0 w (.returned (.tuple #[.slice a P.length cap, .int .i64 0])) w6) := by
              obtain ⟨a, cap, hv, _⟩ := hr6.form
              subst hv
              exact ⟨a, cap, rfl, HBr.out.trans (hb6.mono HBr.out.size), a, cap, P, rfl, hr6, HPE.out, HOKP.out⟩
            obtain ⟨oa, oc, hov, HP⟩ := HEnd.out
            obtain ⟨M, HM9⟩ : ∃ m, Hid (P.length = m) := ⟨_, rfl⟩
            rw [HM9.out] at hov HP
            subst hov
            have HP2 : Hid _ := HP
            clear HP HEnd hr6 hb6
            go_wp2_with fail
            go_ret2
            exact HP2.out
      · obtain ⟨h1, h2⟩ := rlE_rng (f := f) (t := t) HZ.out hmk hrg
        rw [← HC.out] at h1
        rw [← HQ.out] at h2
        subst h2
        have HEnd : Hid (RwPost [] c w (.returned (.tuple #[.slice none 0 0, .int .i64 1])) w2) := by rw [← h1]; exact RwPost.none HB2.out
        have HIR := isRange_any f t w2
        rw [decide_eq_false hrg] at HIR
        have HIR2 : Hid (Calls Try.prog 18 #[.int .i64 f, .int .i64 t] w2 fun e w' => e = .returned (.bool false) ∧ w' = w2) := HIR
        clear h1 HC HIR hrg
        go_wp2_with fail
        refine HIR2.out.mono ?_
        rintro e w' ⟨rfl, hw'⟩
        subst w'
        clear HIR2
        go_wp2_with fail
        go_ret2
        exact HEnd.out
end Go.Proofs.Ytoenijflijfogaa

/- The contract of the reference's Digits. -/
namespace Go.Proofs.Ytoenijflijfogaa
open Go.RowKit

/-- A digit to the base 256. -/
def dig (n : Int) (i : Nat) : Int := n / 256 ^ i % 256
/-- An array of sixteen numbers in memory. -/
def DArr (w : World) (b : Nat) (f : Nat → Int) : Prop := b < w.heap.size ∧ (∀ j, j < 16 → w.cell? ⟨b, j, none⟩ = some (.int .i64 (f j))) ∧ ∀ j, w.frozen? ⟨b, j, none⟩ = false
theorem DArr.set {w : World} {b : Nat} {f : Nat → Int} (h : DArr w b f) (i : Nat) (hi : i < 16) (z : Int) : DArr (w.setCell ⟨b, i, none⟩ (.int .i64 z)) b (fun j => if j = i then z else f j) := by
  obtain ⟨h1, h2, h3⟩ := h
  refine ⟨by simp [World.setCell]; exact h1, fun j hj => ?_, fun j => by rw [World.frozen?_setCell]; exact h3 j⟩
  by_cases e : j = i
  · subst e; simp only [if_true]; exact World.cell?_setCell_same _ _ _ (h2 j hj)
  · rw [World.cell?_setCell_other (h := by intro hh; injection hh with _ h2; omega)]
    simp only [if_neg e]; exact h2 j hj
theorem DArr.far {w : World} {b b' i : Nat} {u : Value} {f : Nat → Int} (h : DArr w b f) (hne : b' ≠ b) : DArr (w.setCell ⟨b', i, none⟩ u) b f := by
  obtain ⟨h1, h2, h3⟩ := h
  refine ⟨by simp [World.setCell]; exact h1, fun j hj => ?_, fun j => by rw [World.frozen?_setCell]; exact h3 j⟩
  rw [World.cell?_setCell_other (h := by intro hh; injection hh with e1 _; exact hne e1)]
  exact h2 j hj
theorem DArr.drew {w : World} {b : Nat} {f : Nat → Int} (h : DArr w b f) : DArr w.drew b f := h
theorem DArr.congr {w : World} {b : Nat} {f g : Nat → Int} (h : DArr w b f) (e : ∀ j, j < 16 → f j = g j) : DArr w b g := ⟨h.1, fun j hj => by rw [← e j hj]; exact h.2.1 j hj, h.2.2⟩
theorem DArr.below {w w' : World} {b : Nat} {f : Nat → Int} (h : DArr w b f) (hb : Below w.heap.size w w') : DArr w' b f := by
  have := hb.size
  exact ⟨by have := h.1; omega, fun j hj => (hb.cell (p := ⟨b, j, none⟩) h.1).trans (h.2.1 j hj), fun j => (hb.frozen (p := ⟨b, j, none⟩) h.1).trans (h.2.2 j)⟩
/-- The digits so far. -/
def dgF (L U : Int) (k j : Nat) : Int := if j < 8 then (if j < k then dig L j else 0) else (if j - 8 < k then dig U (j - 8) else 0)

set_option maxRecDepth 100000 in
set_option maxHeartbeats 2000000 in
theorem digits_walk (H L U : Int) (l1 : 0 ≤ L) (l2 : L < 18446744073709551616) (hU : IntKind.u64.wrap H = U) (u1 : 0 ≤ U) (u2 : U < 18446744073709551616) (w : World) :
    Calls Try.prog 82 #[.agg #[.int .i64 H, .int .u64 L]] w fun e w' => e = .returned (.agg #[.int .i64 (dig L 0), .int .i64 (dig L 1), .int .i64 (dig L 2), .int .i64 (dig L 3), .int .i64 (dig L 4), .int .i64 (dig L 5), .int .i64 (dig L 6), .int .i64 (dig L 7), .int .i64 (dig U 0), .int .i64 (dig U 1), .int .i64 (dig U 2), .int .i64 (dig U 3), .int .i64 (dig U 4), .int .i64 (dig U 5), .int .i64 (dig U 6), .int .i64 (dig U 7)]) ∧ Below w.heap.size w w' := by
  have HB0 : Hid (∀ o1 o2 o3, Below w.heap.size w (((w.alloc o1).alloc o2).alloc o3)) := fun o1 o2 o3 => (((Below.refl _ _).alloc (by simp) _).alloc (by simp) _).alloc (by simp; omega) _
  go_enter Try.func82, Try.ntmps82
  go_wp2_with fail
  refine wp_region_noPanic ?_
  refine wp_region_held_drew (S := (fun w' => w'.cell? ⟨w.heap.size, 0, none⟩ = some (.int .i64 H) ∧ w'.cell? ⟨w.heap.size, 1, none⟩ = some (.int .u64 L))) (by kernel_rfl) ?_ (fun hHeld => ?_)
  · exact ⟨by simp [go_sem, World.cell?_alloc_past], by simp [go_sem, World.cell?_alloc_past]⟩
  refine wpAnyH_take (i := 0) (v := .pointer (some ⟨w.heap.size, 1, none⟩)) rfl (by kernel_rfl) (by kernel_rfl) (by kernel_rfl) (fun _ _ _ h => h) (Or.inl ⟨by rfl, ?_⟩) (by assumption) ?_
  · (intro w1 hSw; (try dsimp only at hSw); go_simp)
  simp only [List.getElem_toArray, List.getElem_cons_zero, Act.put, List.setIfInBounds_toArray, List.set_cons_zero, List.set_cons_succ]
  refine wpAnyH_take (i := 1) (v := .int .u64 L) rfl (by kernel_rfl) (by kernel_rfl) (by kernel_rfl) (fun _ _ _ h => h) (Or.inl ⟨by rfl, ?_⟩) (by assumption) ?_
  · (intro w1 hSw; (try dsimp only at hSw); go_simp)
  simp only [List.getElem_toArray, List.getElem_cons_succ, List.getElem_cons_zero, Act.put, List.setIfInBounds_toArray, List.set_cons_zero, List.set_cons_succ]
  refine wpAnyH_take (i := 2) (v := .pointer (some ⟨w.heap.size, 0, none⟩)) rfl (by kernel_rfl) (by kernel_rfl) (by kernel_rfl) (fun _ _ _ h => h) (Or.inl ⟨by rfl, ?_⟩) (by assumption) ?_
  · (intro w1 hSw; (try dsimp only at hSw); go_simp)
  simp only [List.getElem_toArray, List.getElem_cons_succ, List.getElem_cons_zero, Act.put, List.setIfInBounds_toArray, List.set_cons_zero, List.set_cons_succ]
  refine wpAnyH_take (i := 3) (v := .int .i64 H) rfl (by kernel_rfl) (by kernel_rfl) (by kernel_rfl) (fun _ _ _ h => h) (Or.inl ⟨by rfl, ?_⟩) (by assumption) ?_
  · (intro w1 hSw; (try dsimp only at hSw); go_simp)
  simp only [List.getElem_toArray, List.getElem_cons_succ, List.getElem_cons_zero, Act.put, List.setIfInBounds_toArray, List.set_cons_zero, List.set_cons_succ]
  refine wpAnyH_take (i := 4) (v := .int .u64 U) rfl (by kernel_rfl) (by kernel_rfl) (by kernel_rfl) (fun _ _ _ h => h) (Or.inl ⟨by rfl, ?_⟩) (by assumption) ?_
  · (intro w1 hSw; (try dsimp only at hSw); go_simp)
  simp only [List.getElem_toArray, List.getElem_cons_succ, List.getElem_cons_zero, Act.put, List.setIfInBounds_toArray, List.set_cons_zero, List.set_cons_succ]
  refine wpAnyH_take (i := 5) (v := .int .u64 L) rfl (by kernel_rfl) (by kernel_rfl) (by kernel_rfl) (fun _ _ _ h => h) (Or.inl ⟨by rfl, ?_⟩) (by assumption) ?_
  · (intro w1 hSw; (try dsimp only at hSw); go_simp)
  simp only [List.getElem_toArray, List.getElem_cons_succ, List.getElem_cons_zero, Act.put, List.setIfInBounds_toArray, List.set_cons_zero, List.set_cons_succ]
  refine wpAnyH_take (i := 6) (v := .int .u64 U) rfl (by kernel_rfl) (by kernel_rfl) (by kernel_rfl) (fun _ _ _ h => h) (Or.inl ⟨by rfl, ?_⟩) (by assumption) ?_
  · (intro w1 hSw; (try dsimp only at hSw); go_simp)
  simp only [List.getElem_toArray, List.getElem_cons_succ, List.getElem_cons_zero, Act.put, List.setIfInBounds_toArray, List.set_cons_zero, List.set_cons_succ]
  refine wpAnyH_done (by kernel_rfl) ?_ _
  refine NoPanic.normal ?_
  clear hHeld hU
  go_wp2_with fail
  go_loopw [4, 5, 6] (fun lo hi i wr => ∃ k : Nat, k ≤ 8 ∧ i = .int .i64 (k : Int) ∧ lo = .int .u64 (L / 256 ^ k) ∧ hi = .int .u64 (U / 256 ^ k) ∧ DArr wr (w.heap.size + 1 + 1) (dgF L U k) ∧ DArr wr (w.heap.size + 1) (fun _ => 0) ∧ Below w.heap.size w wr) (fun _ _ i _ => 8 - (intOf i).toNat)
  case atStart =>
    refine ⟨0, by omega, rfl, by simp, by simp, ⟨by simp, ?_, ?_⟩, ⟨by simp, ?_, ?_⟩, (HB0.out _ _ _).drew⟩
    · intro j hj
      have e : dgF L U 0 j = 0 := by unfold dgF; split <;> simp
      rw [e]
      have hjj : j = 0 ∨ j = 1 ∨ j = 2 ∨ j = 3 ∨ j = 4 ∨ j = 5 ∨ j = 6 ∨ j = 7 ∨ j = 8 ∨ j = 9 ∨ j = 10 ∨ j = 11 ∨ j = 12 ∨ j = 13 ∨ j = 14 ∨ j = 15 := by omega
      rcases hjj with rfl | rfl | rfl | rfl | rfl | rfl | rfl | rfl | rfl | rfl | rfl | rfl | rfl | rfl | rfl | rfl <;> simp [go_sem]
    · intro j; simp [go_sem]
    · intro j hj
      have hjj : j = 0 ∨ j = 1 ∨ j = 2 ∨ j = 3 ∨ j = 4 ∨ j = 5 ∨ j = 6 ∨ j = 7 ∨ j = 8 ∨ j = 9 ∨ j = 10 ∨ j = 11 ∨ j = 12 ∨ j = 13 ∨ j = 14 ∨ j = 15 := by omega
      rcases hjj with rfl | rfl | rfl | rfl | rfl | rfl | rfl | rfl | rfl | rfl | rfl | rfl | rfl | rfl | rfl | rfl <;> simp [go_sem, World.cell?_alloc_past]
    · intro j; simp [go_sem]
  case round =>
    obtain ⟨k, hk, rfl, rfl, rfl, hd, hz, hbr⟩ := hrel
    by_cases hlt : k < 8
    · have c1 := hd.2.1 k (by omega)
      have c2 := hd.2.1 (8 + k) (by omega)
      have f1 := hd.2.2 k
      have f2 := hd.2.2 (8 + k)
      have pk : (0 : Int) < 256 ^ k := Int.pow_pos (by omega)
      have a1 : 0 ≤ L / 256 ^ k := Int.ediv_nonneg l1 (by omega)
      have a2 : L / 256 ^ k ≤ L := Int.ediv_le_self _ l1
      have b1 : 0 ≤ U / 256 ^ k := Int.ediv_nonneg u1 (by omega)
      have b2 : U / 256 ^ k ≤ U := Int.ediv_le_self _ u1
      have HA : Hid (L / 256 ^ k / 256 = L / 256 ^ (k + 1)) := by unfold Hid; rw [Int.pow_succ, Int.ediv_ediv_of_nonneg (by omega)]
      have HBb : Hid (U / 256 ^ k / 256 = U / 256 ^ (k + 1)) := by unfold Hid; rw [Int.pow_succ, Int.ediv_ediv_of_nonneg (by omega)]
      have HD : Hid (∀ wz, wz = (wr.setCell ⟨w.heap.size + 1 + 1, k, none⟩ (.int .i64 (L / 256 ^ k % 256))).setCell ⟨w.heap.size + 1 + 1, 8 + k, none⟩ (.int .i64 (U / 256 ^ k % 256)) → DArr wz (w.heap.size + 1 + 1) (dgF L U (k + 1)) ∧ DArr wz (w.heap.size + 1) (fun _ => 0) ∧ Below w.heap.size w wz) := by
        rintro wz rfl
        refine ⟨((hd.set k (by omega) _).set (8 + k) (by omega) _).congr ?_, (hz.far (by omega)).far (by omega), (hbr.setCell (by show w.heap.size ≤ w.heap.size + 1 + 1; omega) _).setCell (by show w.heap.size ≤ w.heap.size + 1 + 1; omega) _⟩
        intro j hj
        unfold dgF
        by_cases e1 : j = 8 + k
        · subst e1
          rw [if_pos rfl, if_neg (by omega), if_pos (by omega)]
          have e : 8 + k - 8 = k := by omega
          rw [e]; rfl
        · rw [if_neg e1]
          by_cases e2 : j = k
          · subst e2
            rw [if_pos rfl, if_pos (by omega), if_pos (by omega)]; rfl
          · rw [if_neg e2]
            by_cases e3 : j < 8
            · rw [if_pos e3, if_pos e3]
              by_cases e4 : j < k
              · rw [if_pos e4, if_pos (by omega)]
              · rw [if_neg e4, if_neg (by omega)]
            · rw [if_neg e3, if_neg e3]
              by_cases e4 : j - 8 < k
              · rw [if_pos e4, if_pos (by omega)]
              · rw [if_neg e4, if_neg (by omega)]
      generalize hA : L / 256 ^ k = A at *
      generalize hB : U / 256 ^ k = B at *
      have t1 : Int.tmod A 256 = A % 256 := Int.tmod_eq_emod_of_nonneg a1
      have t2 : Int.tmod B 256 = B % 256 := Int.tmod_eq_emod_of_nonneg b1
      have t3 : Int.tdiv A 256 = A / 256 := Int.tdiv_eq_ediv_of_nonneg a1
      have t4 : Int.tdiv B 256 = B / 256 := Int.tdiv_eq_ediv_of_nonneg b1
      have a3 : A < 18446744073709551616 := by omega
      have b3 : B < 18446744073709551616 := by omega
      have hsz := hbr.size
      clear hd hz hbr hA hB pk a2 b2
      go_wp2_with fail
      go_roundw
      case rel =>
        obtain ⟨z1, z2, z3⟩ := HD.out _ rfl
        exact ⟨k + 1, by omega, by go_num, by rw [HA.out], by rw [HBb.out], z1, z2, z3⟩
      case measure => simp [intOf]; omega
    · have hke : k = 8 := by omega
      subst hke
      have e : ∀ j, j < 16 → dgF L U 8 j = if j < 8 then dig L j else dig U (j - 8) := by
        intro j hj; unfold dgF
        by_cases h : j < 8
        · rw [if_pos h, if_pos h, if_pos h]
        · rw [if_neg h, if_neg h, if_pos (by omega)]
      have hd' := hd.congr e
      have c0 : wr.cell? ⟨w.heap.size + 1 + 1, 0, none⟩ = some (.int .i64 (dig L 0)) := hd'.2.1 0 (by omega)
      have c1 : wr.cell? ⟨w.heap.size + 1 + 1, 1, none⟩ = some (.int .i64 (dig L 1)) := hd'.2.1 1 (by omega)
      have c2 : wr.cell? ⟨w.heap.size + 1 + 1, 2, none⟩ = some (.int .i64 (dig L 2)) := hd'.2.1 2 (by omega)
      have c3 : wr.cell? ⟨w.heap.size + 1 + 1, 3, none⟩ = some (.int .i64 (dig L 3)) := hd'.2.1 3 (by omega)
      have c4 : wr.cell? ⟨w.heap.size + 1 + 1, 4, none⟩ = some (.int .i64 (dig L 4)) := hd'.2.1 4 (by omega)
      have c5 : wr.cell? ⟨w.heap.size + 1 + 1, 5, none⟩ = some (.int .i64 (dig L 5)) := hd'.2.1 5 (by omega)
      have c6 : wr.cell? ⟨w.heap.size + 1 + 1, 6, none⟩ = some (.int .i64 (dig L 6)) := hd'.2.1 6 (by omega)
      have c7 : wr.cell? ⟨w.heap.size + 1 + 1, 7, none⟩ = some (.int .i64 (dig L 7)) := hd'.2.1 7 (by omega)
      have c8 : wr.cell? ⟨w.heap.size + 1 + 1, 8, none⟩ = some (.int .i64 (dig U 0)) := hd'.2.1 8 (by omega)
      have c9 : wr.cell? ⟨w.heap.size + 1 + 1, 9, none⟩ = some (.int .i64 (dig U 1)) := hd'.2.1 9 (by omega)
      have c10 : wr.cell? ⟨w.heap.size + 1 + 1, 10, none⟩ = some (.int .i64 (dig U 2)) := hd'.2.1 10 (by omega)
      have c11 : wr.cell? ⟨w.heap.size + 1 + 1, 11, none⟩ = some (.int .i64 (dig U 3)) := hd'.2.1 11 (by omega)
      have c12 : wr.cell? ⟨w.heap.size + 1 + 1, 12, none⟩ = some (.int .i64 (dig U 4)) := hd'.2.1 12 (by omega)
      have c13 : wr.cell? ⟨w.heap.size + 1 + 1, 13, none⟩ = some (.int .i64 (dig U 5)) := hd'.2.1 13 (by omega)
      have c14 : wr.cell? ⟨w.heap.size + 1 + 1, 14, none⟩ = some (.int .i64 (dig U 6)) := hd'.2.1 14 (by omega)
      have c15 : wr.cell? ⟨w.heap.size + 1 + 1, 15, none⟩ = some (.int .i64 (dig U 7)) := hd'.2.1 15 (by omega)
      have z0 : wr.cell? ⟨w.heap.size + 1, 0, none⟩ = some (.int .i64 0) := hz.2.1 0 (by omega)
      have z1 : wr.cell? ⟨w.heap.size + 1, 1, none⟩ = some (.int .i64 0) := hz.2.1 1 (by omega)
      have z2 : wr.cell? ⟨w.heap.size + 1, 2, none⟩ = some (.int .i64 0) := hz.2.1 2 (by omega)
      have z3 : wr.cell? ⟨w.heap.size + 1, 3, none⟩ = some (.int .i64 0) := hz.2.1 3 (by omega)
      have z4 : wr.cell? ⟨w.heap.size + 1, 4, none⟩ = some (.int .i64 0) := hz.2.1 4 (by omega)
      have z5 : wr.cell? ⟨w.heap.size + 1, 5, none⟩ = some (.int .i64 0) := hz.2.1 5 (by omega)
      have z6 : wr.cell? ⟨w.heap.size + 1, 6, none⟩ = some (.int .i64 0) := hz.2.1 6 (by omega)
      have z7 : wr.cell? ⟨w.heap.size + 1, 7, none⟩ = some (.int .i64 0) := hz.2.1 7 (by omega)
      have z8 : wr.cell? ⟨w.heap.size + 1, 8, none⟩ = some (.int .i64 0) := hz.2.1 8 (by omega)
      have z9 : wr.cell? ⟨w.heap.size + 1, 9, none⟩ = some (.int .i64 0) := hz.2.1 9 (by omega)
      have z10 : wr.cell? ⟨w.heap.size + 1, 10, none⟩ = some (.int .i64 0) := hz.2.1 10 (by omega)
      have z11 : wr.cell? ⟨w.heap.size + 1, 11, none⟩ = some (.int .i64 0) := hz.2.1 11 (by omega)
      have z12 : wr.cell? ⟨w.heap.size + 1, 12, none⟩ = some (.int .i64 0) := hz.2.1 12 (by omega)
      have z13 : wr.cell? ⟨w.heap.size + 1, 13, none⟩ = some (.int .i64 0) := hz.2.1 13 (by omega)
      have z14 : wr.cell? ⟨w.heap.size + 1, 14, none⟩ = some (.int .i64 0) := hz.2.1 14 (by omega)
      have z15 : wr.cell? ⟨w.heap.size + 1, 15, none⟩ = some (.int .i64 0) := hz.2.1 15 (by omega)
      have f0 := hz.2.2 0
      have f1 := hz.2.2 1
      have f2 := hz.2.2 2
      have f3 := hz.2.2 3
      have f4 := hz.2.2 4
      have f5 := hz.2.2 5
      have f6 := hz.2.2 6
      have f7 := hz.2.2 7
      have f8 := hz.2.2 8
      have f9 := hz.2.2 9
      have f10 := hz.2.2 10
      have f11 := hz.2.2 11
      have f12 := hz.2.2 12
      have f13 := hz.2.2 13
      have f14 := hz.2.2 14
      have f15 := hz.2.2 15
      have HB : Hid (Below w.heap.size w wr) := hbr
      have hsz := hbr.size
      have HW : Hid (∀ wz, wz = ((((((((((((((((wr.setCell ⟨w.heap.size + 1, 0, none⟩ (.int .i64 (dig L 0))).setCell ⟨w.heap.size + 1, 1, none⟩ (.int .i64 (dig L 1))).setCell ⟨w.heap.size + 1, 2, none⟩ (.int .i64 (dig L 2))).setCell ⟨w.heap.size + 1, 3, none⟩ (.int .i64 (dig L 3))).setCell ⟨w.heap.size + 1, 4, none⟩ (.int .i64 (dig L 4))).setCell ⟨w.heap.size + 1, 5, none⟩ (.int .i64 (dig L 5))).setCell ⟨w.heap.size + 1, 6, none⟩ (.int .i64 (dig L 6))).setCell ⟨w.heap.size + 1, 7, none⟩ (.int .i64 (dig L 7))).setCell ⟨w.heap.size + 1, 8, none⟩ (.int .i64 (dig U 0))).setCell ⟨w.heap.size + 1, 9, none⟩ (.int .i64 (dig U 1))).setCell ⟨w.heap.size + 1, 10, none⟩ (.int .i64 (dig U 2))).setCell ⟨w.heap.size + 1, 11, none⟩ (.int .i64 (dig U 3))).setCell ⟨w.heap.size + 1, 12, none⟩ (.int .i64 (dig U 4))).setCell ⟨w.heap.size + 1, 13, none⟩ (.int .i64 (dig U 5))).setCell ⟨w.heap.size + 1, 14, none⟩ (.int .i64 (dig U 6))).setCell ⟨w.heap.size + 1, 15, none⟩ (.int .i64 (dig U 7))) → DArr wz (w.heap.size + 1) (fun j => if j < 8 then dig L j else dig U (j - 8)) ∧ Below w.heap.size w wz) := by
        rintro wz rfl
        refine ⟨((((((((((((((((hz.set 0 (by omega) (dig L 0)).set 1 (by omega) (dig L 1)).set 2 (by omega) (dig L 2)).set 3 (by omega) (dig L 3)).set 4 (by omega) (dig L 4)).set 5 (by omega) (dig L 5)).set 6 (by omega) (dig L 6)).set 7 (by omega) (dig L 7)).set 8 (by omega) (dig U 0)).set 9 (by omega) (dig U 1)).set 10 (by omega) (dig U 2)).set 11 (by omega) (dig U 3)).set 12 (by omega) (dig U 4)).set 13 (by omega) (dig U 5)).set 14 (by omega) (dig U 6)).set 15 (by omega) (dig U 7)).congr ?_, ((((((((((((((((hbr.setCell (p := ⟨w.heap.size + 1, 0, none⟩) (by show w.heap.size ≤ w.heap.size + 1; omega) _).setCell (p := ⟨w.heap.size + 1, 1, none⟩) (by show w.heap.size ≤ w.heap.size + 1; omega) _).setCell (p := ⟨w.heap.size + 1, 2, none⟩) (by show w.heap.size ≤ w.heap.size + 1; omega) _).setCell (p := ⟨w.heap.size + 1, 3, none⟩) (by show w.heap.size ≤ w.heap.size + 1; omega) _).setCell (p := ⟨w.heap.size + 1, 4, none⟩) (by show w.heap.size ≤ w.heap.size + 1; omega) _).setCell (p := ⟨w.heap.size + 1, 5, none⟩) (by show w.heap.size ≤ w.heap.size + 1; omega) _).setCell (p := ⟨w.heap.size + 1, 6, none⟩) (by show w.heap.size ≤ w.heap.size + 1; omega) _).setCell (p := ⟨w.heap.size + 1, 7, none⟩) (by show w.heap.size ≤ w.heap.size + 1; omega) _).setCell (p := ⟨w.heap.size + 1, 8, none⟩) (by show w.heap.size ≤ w.heap.size + 1; omega) _).setCell (p := ⟨w.heap.size + 1, 9, none⟩) (by show w.heap.size ≤ w.heap.size + 1; omega) _).setCell (p := ⟨w.heap.size + 1, 10, none⟩) (by show w.heap.size ≤ w.heap.size + 1; omega) _).setCell (p := ⟨w.heap.size + 1, 11, none⟩) (by show w.heap.size ≤ w.heap.size + 1; omega) _).setCell (p := ⟨w.heap.size + 1, 12, none⟩) (by show w.heap.size ≤ w.heap.size + 1; omega) _).setCell (p := ⟨w.heap.size + 1, 13, none⟩) (by show w.heap.size ≤ w.heap.size + 1; omega) _).setCell (p := ⟨w.heap.size + 1, 14, none⟩) (by show w.heap.size ≤ w.heap.size + 1; omega) _).setCell (p := ⟨w.heap.size + 1, 15, none⟩) (by show w.heap.size ≤ w.heap.size + 1; omega) _)⟩
        intro j hj
        have hjj : j = 0 ∨ j = 1 ∨ j = 2 ∨ j = 3 ∨ j = 4 ∨ j = 5 ∨ j = 6 ∨ j = 7 ∨ j = 8 ∨ j = 9 ∨ j = 10 ∨ j = 11 ∨ j = 12 ∨ j = 13 ∨ j = 14 ∨ j = 15 := by omega
        rcases hjj with rfl | rfl | rfl | rfl | rfl | rfl | rfl | rfl | rfl | rfl | rfl | rfl | rfl | rfl | rfl | rfl <;> rfl
      clear hd hd' hz hbr e l1 l2 u1 u2
      go_wp2_with fail
      obtain ⟨wz, hwz⟩ : ∃ wz, wz = ((((((((((((((((wr.setCell ⟨w.heap.size + 1, 0, none⟩ (.int .i64 (dig L 0))).setCell ⟨w.heap.size + 1, 1, none⟩ (.int .i64 (dig L 1))).setCell ⟨w.heap.size + 1, 2, none⟩ (.int .i64 (dig L 2))).setCell ⟨w.heap.size + 1, 3, none⟩ (.int .i64 (dig L 3))).setCell ⟨w.heap.size + 1, 4, none⟩ (.int .i64 (dig L 4))).setCell ⟨w.heap.size + 1, 5, none⟩ (.int .i64 (dig L 5))).setCell ⟨w.heap.size + 1, 6, none⟩ (.int .i64 (dig L 6))).setCell ⟨w.heap.size + 1, 7, none⟩ (.int .i64 (dig L 7))).setCell ⟨w.heap.size + 1, 8, none⟩ (.int .i64 (dig U 0))).setCell ⟨w.heap.size + 1, 9, none⟩ (.int .i64 (dig U 1))).setCell ⟨w.heap.size + 1, 10, none⟩ (.int .i64 (dig U 2))).setCell ⟨w.heap.size + 1, 11, none⟩ (.int .i64 (dig U 3))).setCell ⟨w.heap.size + 1, 12, none⟩ (.int .i64 (dig U 4))).setCell ⟨w.heap.size + 1, 13, none⟩ (.int .i64 (dig U 5))).setCell ⟨w.heap.size + 1, 14, none⟩ (.int .i64 (dig U 6))).setCell ⟨w.heap.size + 1, 15, none⟩ (.int .i64 (dig U 7))) := ⟨_, rfl⟩
      rw [← hwz]
      obtain ⟨y, yb⟩ := HW.out wz hwz
      have y0 : wz.cell? ⟨w.heap.size + 1, 0, none⟩ = some (.int .i64 (dig L 0)) := y.2.1 0 (by omega)
      have y1 : wz.cell? ⟨w.heap.size + 1, 1, none⟩ = some (.int .i64 (dig L 1)) := y.2.1 1 (by omega)
      have y2 : wz.cell? ⟨w.heap.size + 1, 2, none⟩ = some (.int .i64 (dig L 2)) := y.2.1 2 (by omega)
      have y3 : wz.cell? ⟨w.heap.size + 1, 3, none⟩ = some (.int .i64 (dig L 3)) := y.2.1 3 (by omega)
      have y4 : wz.cell? ⟨w.heap.size + 1, 4, none⟩ = some (.int .i64 (dig L 4)) := y.2.1 4 (by omega)
      have y5 : wz.cell? ⟨w.heap.size + 1, 5, none⟩ = some (.int .i64 (dig L 5)) := y.2.1 5 (by omega)
      have y6 : wz.cell? ⟨w.heap.size + 1, 6, none⟩ = some (.int .i64 (dig L 6)) := y.2.1 6 (by omega)
      have y7 : wz.cell? ⟨w.heap.size + 1, 7, none⟩ = some (.int .i64 (dig L 7)) := y.2.1 7 (by omega)
      have y8 : wz.cell? ⟨w.heap.size + 1, 8, none⟩ = some (.int .i64 (dig U 0)) := y.2.1 8 (by omega)
      have y9 : wz.cell? ⟨w.heap.size + 1, 9, none⟩ = some (.int .i64 (dig U 1)) := y.2.1 9 (by omega)
      have y10 : wz.cell? ⟨w.heap.size + 1, 10, none⟩ = some (.int .i64 (dig U 2)) := y.2.1 10 (by omega)
      have y11 : wz.cell? ⟨w.heap.size + 1, 11, none⟩ = some (.int .i64 (dig U 3)) := y.2.1 11 (by omega)
      have y12 : wz.cell? ⟨w.heap.size + 1, 12, none⟩ = some (.int .i64 (dig U 4)) := y.2.1 12 (by omega)
      have y13 : wz.cell? ⟨w.heap.size + 1, 13, none⟩ = some (.int .i64 (dig U 5)) := y.2.1 13 (by omega)
      have y14 : wz.cell? ⟨w.heap.size + 1, 14, none⟩ = some (.int .i64 (dig U 6)) := y.2.1 14 (by omega)
      have y15 : wz.cell? ⟨w.heap.size + 1, 15, none⟩ = some (.int .i64 (dig U 7)) := y.2.1 15 (by omega)
      clear hwz HW
      exact bodyPost_ret (v := .agg #[.int .i64 (dig L 0), .int .i64 (dig L 1), .int .i64 (dig L 2), .int .i64 (dig L 3), .int .i64 (dig L 4), .int .i64 (dig L 5), .int .i64 (dig L 6), .int .i64 (dig L 7), .int .i64 (dig U 0), .int .i64 (dig U 1), .int .i64 (dig U 2), .int .i64 (dig U 3), .int .i64 (dig U 4), .int .i64 (dig U 5), .int .i64 (dig U 6), .int .i64 (dig U 7)]) (by simp [results, Try.results82, go_sem, *]) rfl ⟨rfl, yb⟩
end Go.Proofs.Ytoenijflijfogaa

/- A drawn region with boxes that float among its operations, and stores into them: what each operation yields may speak of what others yielded; the boxes are apart. -/
namespace Go.Proofs.Ytoenijflijfogaa
open Go.RowKit

section
variable {P : Program} {ops : Array Oper} {Q : Exit → Act → World → Prop} (D : List Nat) (a0 : Act) (w0 : World) (A : List Nat) (V : Nat → (Nat → Value) → World → Prop)
/-- What the operations have yielded. -/
def yl (ops : Array Oper) (f : Nat → Value) : Nat → Value := fun j => f (dstN ops j)
/-- Boxes are apart. -/
def Apt (A ds : List Nat) (g : Nat → Value) : Prop := ∀ i ∈ A, ∀ j ∈ A, i ∈ ds → j ∈ ds → i ≠ j → g i ≠ g j
def AllS2 (P : Program) (ops : Array Oper) (Q : Exit → Act → World → Prop) (is : List Nat) : Prop :=
  ∀ i ∈ is, ∀ o, ops[i]? = some o → ∀ f w, Below w0.heap.size w0 w → (∀ j ∈ depsO .any o, V j (yl ops f) w) → Apt A (depsO .any o) (yl ops f) →
    wpOp P ops Q i (fun a' w' => ∃ v, a' = (frF D a0 f).put o.dst v ∧ Below w0.heap.size w w' ∧ (∀ j, V j (yl ops f) w → V j (yl ops f) w') ∧ (∀ g', g' i = v → (∀ j ∈ depsO .any o, g' j = yl ops f j) → V i g' w') ∧ (i ∈ A → v = .pointer (some ⟨w.heap.size, 0, none⟩))) (frF D a0 f) w
variable {D a0 w0 A V}
theorem AllS2.nil : AllS2 D a0 w0 A V P ops Q [] := fun i h => by cases h
theorem AllS2.cons {i : Nat} {o : Oper} {ds : List Nat} {is : List Nat} (ho : ops[i]? = some o) (hds : depsO .any o = ds)
    (h : ∀ (f : Nat → Value) (w : World) (K : Act → World → Prop), Hid (Below w0.heap.size w0 w) → (∀ j ∈ ds, V j (yl ops f) w) → Hid (Apt A ds (yl ops f)) →
      Shut (∀ v w', Below w0.heap.size w w' → (∀ j, V j (yl ops f) w → V j (yl ops f) w') → (∀ g', g' i = v → (∀ j ∈ ds, g' j = yl ops f j) → V i g' w') → (i ∈ A → v = .pointer (some ⟨w.heap.size, 0, none⟩)) → K ((frF D a0 f).put o.dst v) w') →
      if Region.wanted o (yielded ops (frF D a0 f).tmps) = true then Oper.wp P o (frF D a0 f) w K Q else K ((frF D a0 f).put o.dst undef) w)
    (hs : AllS2 D a0 w0 A V P ops Q is) : AllS2 D a0 w0 A V P ops Q (i :: is) := fun j hj o' ho' f w hB hd hA => by
  rcases List.mem_cons.1 hj with rfl | hj
  · rw [ho] at ho'
    obtain rfl : o = o' := by simpa using ho'
    exact wpOp_step ho (fun K' hK => h f w K' hB (hds ▸ hd) (hds ▸ hA) (fun v w' h1 h2 h3 h4 => hK _ _ ⟨v, rfl, h1, h2, hds ▸ h3, h4⟩))
  · exact hs j hj o' ho' f w hB hd hA
/-- A drawn region. -/
theorem region_inv2 {id : Nat} (hm : P.follows .mixedOrders = true) (D : List Nat) (A : List Nat) (V : Nat → (Nat → Value) → World → Prop)
    (hloc : ∀ j o, ops[j]? = some o → ∀ g g' w, g j = g' j → (∀ k ∈ depsO .any o, g k = g' k) → V j g w → V j g' w)
    (hbox : ∀ j ∈ A, ∀ g w, V j g w → ∃ b, g j = .pointer (some ⟨b, 0, none⟩) ∧ b < w.heap.size)
    (hok : okOs D .any ops.toList 0 = true) (hnd : nodupB (dsts ops.toList 0) = true)
    (steps : AllS2 D a0 w0 A V P ops Q (List.range ops.size))
    (done : ∀ f w, Below w0.heap.size w0 w → (∀ j, j < ops.size → V j (yl ops f) w) → Apt A (List.range ops.size) (yl ops f) → Q .normal (frF D a0 f) w) : (Code.region id ops true).wp P Q a0 w0 := by
  refine wp_region_any hm (wpAny_inv (fun listed a w => listed.size = ops.size ∧ (∀ j o, ops[j]? = some o → listed.getD j false = true → ∀ k ∈ depsO .any o, listed.getD k false = true) ∧ ∃ f, a = frF D a0 f ∧ Below w0.heap.size w0 w ∧ (∀ j, listed.getD j false = true → V j (yl ops f) w) ∧ (∀ i ∈ A, ∀ j ∈ A, listed.getD i false = true → listed.getD j false = true → i ≠ j → yl ops f i ≠ yl ops f j)) ?_ ?_ _ _ _ _ (by simp [unl_rep]) ⟨by simp, fun j o _ hj => ?_, fun k => a0.tmps.getD k undef, (frF_self D a0).symm, (Below.refl _ _).drew, fun j hj => ?_, fun i _ j _ hi => ?_⟩)
  · rintro listed a w i ⟨hsz, hcl, f, rfl, hB, hL, hAp⟩ hi
    obtain ⟨h0, o, ho, hall⟩ := mem_ready.1 hi
    have hil : i < ops.size := (Array.getElem?_eq_some_iff.1 ho).1
    have hge : ops.toList[i]'(by simpa using hil) = o := by
      have := (Array.getElem?_eq_some_iff.1 ho).2
      simpa using this
    have hko := okOs_at _ 0 hok i (by simpa using hil)
    rw [hge, Nat.zero_add] at hko
    have hdn : dstN ops i = dstO o i := by simp [dstN, ho]
    have hdl : ∀ j ∈ depsO .any o, listed.getD j false = true := by
      intro j hj
      unfold depsO at hj
      obtain ⟨e, he, rfl⟩ := List.mem_map.1 hj
      obtain ⟨he1, he2⟩ := List.mem_filter.1 he
      exact hall e (by simpa using he1) (by simpa using he2)
    have hni : listed.getD i false = false := by
      have hjl : i < listed.size := by omega
      simpa [hjl] using h0
    have hkeep : ∀ v j, j ≠ i → listed.getD j false = true → yl ops (upd f (dstN ops i) v) j = yl ops f j := by
      intro v j e hj2
      have hjl : j < ops.size := by
        rw [← hsz]
        rcases Nat.lt_or_ge j listed.size with h | h
        · exact h
        · simp [Array.getElem?_eq_none h] at hj2
      have hne : dstN ops j ≠ dstN ops i := by
        have h1 := nodupB_ne _ hnd j i (by rw [dsts_len]; simpa using hjl) (by rw [dsts_len]; simpa using hil) e
        rw [dsts_at _ 0 j (by simpa using hjl), dsts_at _ 0 i (by simpa using hil)] at h1
        simpa [dstN, hjl, hil] using h1
      exact upd_ne f v hne
    have hself : ∀ v, yl ops (upd f (dstN ops i) v) i = v := fun v => upd_same _ _ _
    refine wpOp_mono ?_ (steps i (List.mem_range.2 hil) o ho f w hB (fun j hj => hL j (hdl j hj)) (fun i1 h1 j1 h2 h3 h4 h5 => hAp i1 h1 j1 h2 (hdl i1 h3) (hdl j1 h4) h5))
    rintro a' w' ⟨v, rfl, hB', hR, hVi, hfr⟩
    have hlist : ∀ j, j ≠ i → (listed.setIfInBounds i true).getD j false = true → listed.getD j false = true := by
      intro j e hj
      rw [getD_set_ne false (Ne.symm e)] at hj; exact hj
    have hdi : ∀ j ∈ depsO .any o, j ≠ i := fun j hj e => by
      have := hdl j hj
      rw [e, hni] at this
      cases this
    refine ⟨by simp [hsz], fun j o' ho' hj k hk => ?_, upd f (dstN ops i) v, ?_, hB.trans hB', fun j hj => ?_, fun i1 h1 j1 h2 h3 h4 h5 => ?_⟩
    · by_cases e : j = i
      · subst e
        rw [ho] at ho'
        obtain rfl : o = o' := by simpa using ho'
        have hkd := hdl k hk
        rw [getD_set_ne false (Ne.symm (hdi k hk))]
        exact hkd
      · have hkd := hcl j o' ho' (hlist j e hj) k hk
        by_cases e2 : k = i
        · subst e2
          rw [hni] at hkd
          cases hkd
        · rw [getD_set_ne false (Ne.symm e2)]
          exact hkd
    · rw [hdn]
      unfold okO at hko
      unfold dstO
      cases hd : o.dst with
      | none =>
        simp only [hd, Bool.and_eq_true, Bool.not_eq_true'] at hko
        show frF D a0 f = _
        unfold frF
        rw [tmOf_out D f _ v hko.1]
      | some d =>
        simp only [hd, Bool.and_eq_true] at hko
        show (⟨(tmOf D f 0 a0.tmps.toList).toArray.setIfInBounds d v, a0.defers⟩ : Act) = _
        unfold frF
        rw [tmOf_upd D f d v hko.1 _ 0 (Nat.zero_le _)]
        simp
    · by_cases e : j = i
      · subst e
        exact hVi _ (hself v) (fun k hk => hkeep v k (hdi k hk) (hdl k hk))
      · have hj2 := hlist j e hj
        have hjl : j < ops.size := by
          rw [← hsz]
          rcases Nat.lt_or_ge j listed.size with h | h
          · exact h
          · simp [Array.getElem?_eq_none h] at hj2
        have hoj : ops[j]? = some ops[j] := by simp [hjl]
        refine hloc j _ hoj (yl ops f) _ w' (hkeep v j e hj2).symm (fun k hk => ?_) (hR j (hL j hj2))
        have hk2 := hcl j _ hoj hj2 k hk
        have hki : k ≠ i := fun e2 => by
          rw [e2, hni] at hk2
          cases hk2
        exact (hkeep v k hki hk2).symm
    · by_cases e1 : i1 = i
      · by_cases e2 : j1 = i
        · exact absurd (e1.trans e2.symm) h5
        · have hj2 := hlist j1 e2 h4
          rw [hkeep v j1 e2 hj2, e1, hself v, hfr (e1 ▸ h1)]
          obtain ⟨b, hb1, hb2⟩ := hbox j1 h2 _ _ (hL j1 hj2)
          rw [hb1]
          intro e3
          have e4 : (⟨w.heap.size, 0, none⟩ : Addr) = ⟨b, 0, none⟩ := by injection e3 with e3; injection e3
          injection e4 with e5
          omega
      · have hi2 := hlist i1 e1 h3
        by_cases e2 : j1 = i
        · rw [hkeep v i1 e1 hi2, e2, hself v, hfr (e2 ▸ h2)]
          obtain ⟨b, hb1, hb2⟩ := hbox i1 h1 _ _ (hL i1 hi2)
          rw [hb1]
          intro e3
          have e4 : (⟨b, 0, none⟩ : Addr) = ⟨w.heap.size, 0, none⟩ := by injection e3 with e3; injection e3
          injection e4 with e5
          omega
        · have hj2 := hlist j1 e2 h4
          rw [hkeep v i1 e1 hi2, hkeep v j1 e2 hj2]
          exact hAp i1 h1 j1 h2 hi2 hj2 h5
  · rintro listed a w ⟨hsz, hcl, f, rfl, hB, hL, hAp⟩ hr
    have hallL : ∀ j, j < ops.size → listed.getD j false = true := by
      intro j hj
      induction j using Nat.strongRecOn with
      | _ j ih =>
        cases hb : listed.getD j false with
        | true => rfl
        | false =>
          exfalso
          have hjl : j < listed.size := by omega
          have hb' : listed.getD j true = false := by simpa [hjl] using hb
          have hko := okOs_at _ 0 hok j (by simpa using hj)
          rw [Nat.zero_add] at hko
          have hmem : j ∈ Region.ready .any ops listed := by
            rw [mem_ready]
            refine ⟨hb', ops[j], by simp [hj], fun e he hbd => ?_⟩
            unfold okO at hko
            rw [Bool.and_eq_true, List.all_eq_true] at hko
            have hlt := hko.2 e.on (by
              unfold depsO
              rw [List.mem_map]
              exact ⟨e, List.mem_filter.2 ⟨by simpa using he, hbd⟩, rfl⟩)
            simp only [decide_eq_true_eq] at hlt
            exact ih e.on hlt (by omega)
          rw [hr] at hmem
          cases hmem
    exact done f w hB (fun j hj => hL j (hallL j hj)) (fun i1 h1 j1 h2 h3 h4 h5 => hAp i1 h1 j1 h2 (hallL i1 (List.mem_range.1 h3)) (hallL j1 (List.mem_range.1 h4)) h5)
  · exfalso
    rcases Nat.lt_or_ge j ops.size with h | h
    · simp [h] at hj
    · simp [h] at hj
  · exfalso
    rcases Nat.lt_or_ge j ops.size with h | h
    · simp [h] at hj
    · simp [h] at hj
  · exfalso
    rcases Nat.lt_or_ge i ops.size with h | h
    · simp [h] at hi
    · simp [h] at hi
end
end Go.Proofs.Ytoenijflijfogaa

/- Two numbers' digits, each into an array of its own, in whatever order they come: what the operations yield. -/
namespace Go.Proofs.Ytoenijflijfogaa
open Go.RowKit

def uhD (x : Int) : Int := hi x % 18446744073709551616
theorem uhD_bd (x : Int) : 0 ≤ uhD x ∧ uhD x < 18446744073709551616 := by unfold uhD; omega
/-- A number's digits. -/
def dF (x : Int) (j : Nat) : Int := if j < 8 then dig (lo x) j else dig (uhD x) (j - 8)
def wv (x : Int) : Value := .agg #[.int .i64 (hi x), .int .u64 (lo x)]
def dvL (x : Int) : List Value := (List.range 16).map fun j => .int .i64 (dF x j)
def dv (x : Int) : Value := .agg (dvL x).toArray
theorem dvL_len (x : Int) : (dvL x).length = 16 := by simp [dvL]
theorem digits_dv (x : Int) (w : World) : Calls Try.prog 82 #[wv x] w fun e w' => e = .returned (dv x) ∧ Below w.heap.size w w' :=
  digits_walk (hi x) (lo x) (uhD x) (lo_bd x).1 (lo_bd x).2 (by rw [IntKind.wrap_u64]; rfl) (uhD_bd x).1 (uhD_bd x).2 w
/-- Room for sixteen digits. -/
def Bd (n0 : Nat) (v : Value) (w : World) : Prop := ∃ b, v = .pointer (some ⟨b, 0, none⟩) ∧ n0 ≤ b ∧ b < w.heap.size ∧ ∃ cs T, w.heap[b]? = some (.cells cs T) ∧ cs.size = 16
def Fd (n0 : Nat) (x : Int) (v : Value) (w : World) : Prop := ∃ b, v = .pointer (some ⟨b, 0, none⟩) ∧ n0 ≤ b ∧ DArr w b (dF x)
theorem Bd.below {n0 : Nat} {v : Value} {w1 w2 : World} (h : Bd n0 v w1) (hb : Below w1.heap.size w1 w2) : Bd n0 v w2 := by
  obtain ⟨b, e, h0, h1, cs, T, h2, h3⟩ := h
  exact ⟨b, e, h0, by have := hb.size; omega, cs, T, (hb.block b h1).trans h2, h3⟩
theorem Fd.below {n0 : Nat} {x : Int} {v : Value} {w1 w2 : World} (h : Fd n0 x v w1) (hb : Below w1.heap.size w1 w2) : Fd n0 x v w2 := by
  obtain ⟨b, e, h0, h1⟩ := h
  exact ⟨b, e, h0, h1.below hb⟩
theorem DArr.same {b : Nat} {f : Nat → Int} {w1 w2 : World} (h : DArr w1 b f) (hs : w1.heap.size ≤ w2.heap.size) (he : w2.heap[b]? = w1.heap[b]?) : DArr w2 b f := by
  obtain ⟨h0, h1, h2⟩ := h
  exact ⟨by omega, fun j hj => by rw [← h1 j hj]; simp only [World.cell?, he], fun j => by rw [← h2 j]; simp only [World.frozen?, he]⟩
theorem Bd.store {n0 : Nat} {v : Value} {w W : World} {g : Nat} {cur : Array Value} {T : TypeId} {vs : List Value} (h : Bd n0 v w) (hc : cur.size = 16) (hS : StW w W g 0 cur T vs) : Bd n0 v W := by
  obtain ⟨b, e, h0, h1, cs, T2, h2, h3⟩ := h
  have hsz := (hS.b 0 (Nat.zero_le _)).size
  by_cases hb : b = g
  · subst hb
    obtain ⟨cur', c1, c2, _⟩ := hS.c
    exact ⟨b, e, h0, by omega, cur', T, c1, by omega⟩
  · exact ⟨b, e, h0, by omega, cs, T2, (hS.o b hb).trans h2, h3⟩
theorem Fd.store {n0 : Nat} {x : Int} {v : Value} {w W : World} {g : Nat} {cur : Array Value} {T : TypeId} {vs : List Value} (h : Fd n0 x v w) (hne : v ≠ .pointer (some ⟨g, 0, none⟩)) (hS : StW w W g 0 cur T vs) : Fd n0 x v W := by
  obtain ⟨b, e, h0, h1⟩ := h
  have hb : b ≠ g := fun e2 => hne (by rw [e, e2])
  exact ⟨b, e, h0, h1.same (hS.b 0 (Nat.zero_le _)).size (hS.o b hb)⟩
theorem Fd.mk {n0 : Nat} {x : Int} {w W : World} {g : Nat} {cur : Array Value} {T : TypeId} (h0 : n0 ≤ g) (hg : g < w.heap.size) (hS : StW w W g 0 cur T (dvL x)) : Fd n0 x (.pointer (some ⟨g, 0, none⟩)) W := by
  have hsz := (hS.b 0 (Nat.zero_le _)).size
  obtain ⟨cur', c1, c2, _, c4⟩ := hS.c
  refine ⟨g, rfl, h0, by omega, fun j hj => ?_, fun j => by simp [World.frozen?, c1]⟩
  have h := c4 j (by rw [dvL_len]; exact hj)
  have e : (dvL x)[j]'(by rw [dvL_len]; exact hj) = .int .i64 (dF x j) := by simp [dvL]
  rw [e, Nat.zero_add] at h
  simp [World.cell?, c1, h]
/-- What each of its operations yields. -/
def dV (x y : Int) (n0 : Nat) : Nat → (Nat → Value) → World → Prop
  | 0, g, _ => g 0 = wv x
  | 1, g, _ => g 1 = dv x
  | 2, g, _ => g 2 = wv y
  | 3, g, _ => g 3 = dv y
  | 4, g, w => Bd n0 (g 4) w
  | 5, g, w => Bd n0 (g 5) w
  | 6, g, w => Fd n0 x (g 4) w
  | 7, g, w => Fd n0 y (g 5) w
  | _, _, _ => True
theorem dV.below {x y : Int} {n0 : Nat} {j : Nat} {g : Nat → Value} {w1 w2 : World} (hb : Below w1.heap.size w1 w2) (h : dV x y n0 j g w1) : dV x y n0 j g w2 := by
  match j, h with
  | 0, h => exact h
  | 1, h => exact h
  | 2, h => exact h
  | 3, h => exact h
  | 4, h => exact Bd.below h hb
  | 5, h => exact Bd.below h hb
  | 6, h => exact Fd.below h hb
  | 7, h => exact Fd.below h hb
  | _ + 8, _ => trivial
theorem dV.store {x y : Int} {n0 : Nat} {j : Nat} {g : Nat → Value} {w1 W : World} {p : Nat} {cs : Array Value} {T : TypeId} {vs : List Value} (hS : StW w1 W p 0 cs T vs) (hc : cs.size = 16)
    (k6 : Fd n0 x (g 4) w1 → Fd n0 x (g 4) W) (k7 : Fd n0 y (g 5) w1 → Fd n0 y (g 5) W) (h : dV x y n0 j g w1) : dV x y n0 j g W := by
  match j, h with
  | 0, h => exact h
  | 1, h => exact h
  | 2, h => exact h
  | 3, h => exact h
  | 4, h => exact Bd.store h hc hS
  | 5, h => exact Bd.store h hc hS
  | 6, h => exact k6 h
  | 7, h => exact k7 h
  | _ + 8, _ => trivial
theorem dV.loc {x y : Int} {n0 : Nat} {j : Nat} {g g' : Nat → Value} {w : World} (hj : g j = g' j) (h4 : j = 6 → g 4 = g' 4) (h5 : j = 7 → g 5 = g' 5) (h : dV x y n0 j g w) : dV x y n0 j g' w := by
  match j, hj, h4, h5, h with
  | 0, hj, _, _, h => exact hj.symm.trans h
  | 1, hj, _, _, h => exact hj.symm.trans h
  | 2, hj, _, _, h => exact hj.symm.trans h
  | 3, hj, _, _, h => exact hj.symm.trans h
  | 4, hj, _, _, h => show Bd n0 (g' 4) w; rw [← hj]; exact h
  | 5, hj, _, _, h => show Bd n0 (g' 5) w; rw [← hj]; exact h
  | 6, _, h4, _, h => show Fd n0 _ (g' 4) w; rw [← h4 rfl]; exact h
  | 7, _, _, h5, h => show Fd n0 _ (g' 5) w; rw [← h5 rfl]; exact h
  | _ + 8, _, _, _, _ => trivial
theorem dV.box {x y : Int} {n0 : Nat} {j : Nat} {g : Nat → Value} {w : World} (hj : j ∈ [4, 5]) (h : dV x y n0 j g w) : ∃ p, g j = .pointer (some ⟨p, 0, none⟩) ∧ p < w.heap.size := by
  simp only [List.mem_cons, List.not_mem_nil, or_false] at hj
  rcases hj with rfl | rfl
  · obtain ⟨p, e, _, h1, _⟩ := h
    exact ⟨p, e, h1⟩
  · obtain ⟨p, e, _, h1, _⟩ := h
    exact ⟨p, e, h1⟩
end Go.Proofs.Ytoenijflijfogaa
