/- BR0, joined. -/
import Derived.Test.YtoenijflijfogaaGreatRC43
import Derived.Test.YtoenijflijfogaaGreatRC46
/- Layer 17: the reference's Rows. -/
namespace Go.Proofs.YtoenijflijfogaaGreat
open Go.RowKit

/-- Rows that grow; their texts lie in blocks of their own. -/
structure TH (T : TypeId) (base : Nat) (W : World) (v : Value) (ys : List It) : Prop where
  o : GOwn W T 9 v ys.length (ys.flatMap c9)
  k : ∀ k, v.ownBlock = some k → base ≤ k ∧ k < W.heap.size
  s : ∀ y ∈ ys, SReads W y.v y.D ∧ (y.D ≠ [] → ∀ b, y.v.ownBlock = some b → v.ownBlock ≠ some b)
theorem TH.nil (T : TypeId) (base : Nat) (W : World) : TH T base W (.slice none 0 0) [] :=
  ⟨GOwn.nil _ _ _, fun k e => by simp [Value.ownBlock] at e, fun y hy => by cases hy⟩
theorem TH.below {T : TypeId} {base : Nat} {W W' : World} {v : Value} {ys : List It} (h : TH T base W v ys) (hb : Below W.heap.size W W') : TH T base W' v ys :=
  ⟨GOwn.keep h.o fun k q => hb.block k (h.k k q).2, fun k q => ⟨(h.k k q).1, Nat.lt_of_lt_of_le (h.k k q).2 hb.size⟩, fun y hy => ⟨(h.s y hy).1.below hb, (h.s y hy).2⟩⟩
theorem sreads_but {w W : World} {v : Value} {D : List ByteArray} (h : SReads w v D) (hs : w.heap.size ≤ W.heap.size) (hk : D ≠ [] → ∀ b, v.ownBlock = some b → b < w.heap.size → W.heap[b]? = w.heap[b]?) : SReads W v D := by
  rcases h with h | ⟨b, off, cap, h1, h2, h3, h4, h5, h6, h7⟩
  · exact .inl h
  · have hD : D ≠ [] := fun e => by rw [e] at h2; simp at h2
    have hb := hk hD b (by rw [h1]; rfl) h5
    refine .inr ⟨b, off, cap, h1, h2, h3, h4, Nat.lt_of_lt_of_le h5 hs, fun j hj => ?_, h7⟩
    rw [← h6 j hj]
    exact World.cell?_of_block hb
theorem TH.app {T U : TypeId} (hu : Tryz.prog.underlying U = some (.slice T)) (hinf : (Tryz.prog.info? T).map (fun i => (i.zero, i.size, i.bytes)) = some (some (.agg #[.slice none 0 0, .int .i64 0, .int .i64 0, .int .u64 0, .bool false, .int .i64 0, .int .u64 0, .int .i64 0, .int .i64 0]), 9, 88))
    {base : Nat} {W : World} {v : Value} {ys : List It} (h : TH T base W v ys) (hs : base ≤ W.heap.size) (y : It) (hy : SReads W y.v y.D) (hyk : y.D ≠ [] → ∀ b, y.v.ownBlock = some b → v.ownBlock ≠ some b) (hl : ys.length < 1000000) :
    ∃ v' w', (Builtin.append_ #[U, U] U #[v, .slice (some ⟨W.heap.size, 0, none⟩) 1 1]).run Tryz.prog (W.alloc (.cells (c9 y).toArray T)) = .ok v' w' ∧ TH T base w' v' (ys ++ [y]) ∧ Below base W w' ∧ W.heap.size ≤ w'.heap.size ∧ ∀ b, b < W.heap.size → v.ownBlock ≠ some b → w'.heap[b]? = W.heap[b]? := by
  obtain ⟨i0, hi, hz0, hz1, hz2⟩ := info_parts hinf
  obtain ⟨v', W', h1, h2, h3, h4⟩ := run_one U U T i0 _ 9 88 hu hi hz0 hz1 hz2 rfl v ys.length _ h.o (fun k e => (h.k k e).2) (c9 y) rfl (one9 (by obtain ⟨a, c, hv, _⟩ := hy.form; rw [hv]; rfl)) hl (by decide)
  have hsz := h3.size
  simp only [World.size_alloc] at hsz
  have hkeep : ∀ b, b < W.heap.size → v.ownBlock ≠ some b → W'.heap[b]? = W.heap[b]? := fun b hb hne =>
    (h3.block b (by rw [World.size_alloc]; omega) (fun e => hne e.symm)).trans (Below.heap_alloc _ _ _ hb)
  have hall : ∀ z ∈ ys ++ [y], SReads W z.v z.D ∧ (z.D ≠ [] → ∀ b, z.v.ownBlock = some b → v.ownBlock ≠ some b) := fun z hz => by
    rcases List.mem_append.1 hz with hz | hz
    · exact h.s z hz
    · obtain rfl : z = y := by simpa using hz
      exact ⟨hy, hyk⟩
  refine ⟨v', W', h1, ⟨?_, fun k q => ?_, fun z hz => ⟨?_, fun hD b hb e => ?_⟩⟩, ((Below.refl base W).alloc hs _).grown h3 (by simp; omega) (fun k q => (h.k k q).1), by omega, hkeep⟩
  · rw [List.length_append, List.flatMap_append]; simpa using h2
  · rcases h4 k q with z | z
    · have := h.k k z; omega
    · omega
  · obtain ⟨a1, a2⟩ := hall z hz
    exact sreads_but a1 (by omega) fun hD b hb hlt => hkeep b hlt (a2 hD b hb)
  · obtain ⟨a1, a2⟩ := hall z hz
    have hlt : b < W.heap.size := sreads_lt a1 (List.length_pos_iff.2 hD) b hb
    rcases h4 b e with q | q
    · exact a2 hD b hb q
    · omega
theorem TH.reads {T : TypeId} {base : Nat} {W : World} {v : Value} {ys : List It} (h : TH T base W v ys) : TReads W v ys := by
  obtain ⟨a, cap, rfl, h1, h2, h3, h4⟩ := GOwn.form h.o
  refine ⟨a, cap, rfl, h1, h2, ?_⟩
  rcases Nat.eq_zero_or_pos ys.length with hz | hz
  · exact .inl (List.length_eq_zero_iff.1 hz)
  · cases a with
    | none => have := h4 rfl; omega
    | some b =>
      have hb := h3 b rfl
      obtain ⟨g, bo, bx⟩ := b
      simp only [Addr.mk.injEq, true_and] at hb
      obtain ⟨rfl, rfl⟩ := hb
      refine .inr ⟨g, 0, rfl, (h.k g rfl).2, fun j hj => ⟨fun i hi => ?_, (h.s _ (List.getElem_mem hj)).1⟩⟩
      have e1 := flat9 ys j i hj hi
      rw [List.getElem?_eq_getElem (show i < (c9 ys[j]).length from hi)] at e1
      have := GOwn.cells h.o (g := g) rfl (9 * j + i) _ e1
      have ea : (⟨g, 0, none⟩ : Addr).add (9 * j + i) = ⟨g, 0 + j * 9 + i, none⟩ := by
        unfold Addr.add
        by_cases hz : 9 * j + i = 0
        · rw [if_pos hz]; exact congrArg (fun x => (⟨g, x, none⟩ : Addr)) (show 0 = 0 + j * 9 + i by omega)
        · rw [if_neg hz]; exact congrArg (fun x => (⟨g, x, none⟩ : Addr)) (show 0 + (9 * j + i) = 0 + j * 9 + i by omega)
      rwa [ea] at this
noncomputable def rwQ (R : Rl) (wm : Int) (L : List En) : List Rw := if chkF R wm L = 0 then rowsE R wm L else []
/-- What Rows tells. -/
def RowsP (R : Rl) (wm : Int) (L : List En) (w : World) (e : Ending) (w' : World) : Prop :=
  Below w.heap.size w w' ∧ ∃ v xs, e = .returned (.tuple #[v, .int .i64 (chkF R wm L)]) ∧ TReads w' v xs ∧ xs.map itR = rwQ R wm L ∧ ∀ x ∈ xs, RwOk x
theorem fo_all {R : Rl} {wm : Int} {L : List En} {w w' : World} {e : Ending} (hn : ∀ x ∈ L, CnOk x.2) (h : FoPost R wm L w e w') :
    Below w.heap.size w w' ∧ ∃ v G, e = .returned (.tuple #[v, .int .i64 (chkF R wm L)]) ∧ EReads w' v G ∧ G.map (rowE R) = rwQ R wm L ∧ (∀ x ∈ G, RightP R ∧ (FitE R x ∧ Gd x.2) ∧ x.1.length ≤ 1000) := by
  obtain ⟨hb, ⟨h1, rfl⟩ | ⟨h1, v, rfl, hE⟩⟩ := h
  · exact ⟨hb, _, [], rfl, ⟨none, 0, rfl, by simp, by simp, .inl rfl⟩, by unfold rwQ; rw [if_neg h1]; rfl, fun x hx => by cases hx⟩
  · obtain ⟨_, hR, _, _, _⟩ := chkF_ok h1
    exact ⟨hb, v, foldF R wm L, by rw [h1], hE, by unfold rwQ; rw [if_pos h1]; rfl, fun x hx => ⟨hR, folded_fit h1 hn x hx⟩⟩
set_option maxRecDepth 100000 in
set_option maxHeartbeats 8000000 in
theorem refRows17_any (R : Rl) (wm : Int) (v : Value) (L : List En) (w : World) (hL : Lies R w.heap.size w) (hE : EReads w v L) (hl : L.length ≤ 100000) (hk : ∀ x ∈ L, x.1.length ≤ 1000) :
    Calls Tryz.prog 26 #[.agg #[.slice R.a R.len R.cap, .int .i64 R.kp], .int .i64 wm, v] w (RowsP R wm L w) := by
  have HL : Hid (Lies R w.heap.size w) := hL
  obtain ⟨a, cap, rfl, hm1, hm2⟩ := hE.form
  obtain ⟨w1, HW1⟩ := hid_ex (w.alloc (.cells #[.slice R.a R.len R.cap, .int .i64 R.kp] 24))
  have HB1 : Hid (Below w.heap.size w w1) := by rw [HW1.out]; exact new_below _ _
  have HX1 : Hid (RBox R w.heap.size w1) := by rw [HW1.out]; exact RBox.new R w _
  have HF : Hid (Calls Tryz.prog 53 #[.agg #[.slice R.a R.len R.cap, .int .i64 R.kp], .int .i64 wm, .slice a L.length cap] w1 (FoPost R wm L w1)) := refFold_any R wm _ L _ (HL.out.at HB1.out) (hE.below HB1.out) hl hk
  have HCN : Hid (∀ x ∈ L, CnOk x.2) := eReads_cn hE
  have HGL : Hid ((rwQ R wm L).length ≤ 100000) := by
    unfold rwQ Hid
    split
    · exact Nat.le_trans (rowsE_len R wm L) hl
    · simp
  obtain ⟨_, c0, c1⟩ := HX1.out
  clear hL hE hl hk
  go_enter Tryz.func26, Tryz.ntmps26
  go_wp2_with fail
  rw [← HW1.out]
  refine HF.out.mono ?_
  clear HF c0 c1 HW1
  intro e w2 hfo
  obtain ⟨hb2, v2, G, rfl, hE2, hGm, hGk⟩ := fo_all HCN.out hfo
  obtain ⟨c, Hc⟩ := hid_ex (chkF R wm L)
  obtain ⟨q, Hq⟩ := hid_ex (rwQ R wm L)
  have HB2 : Hid (Below w.heap.size w w2) := HB1.out.trans (hb2.mono HB1.out.size)
  have HX2 : Hid (RBox R w.heap.size w2) := HX1.out.below hb2
  have HG : Hid (∀ x ∈ G, RightP R ∧ (FitE R x ∧ Gd x.2) ∧ x.1.length ≤ 1000) := hGk
  have HM : Hid (G.map (rowE R) = q) := by rw [Hq.out]; exact hGm
  have hgl : G.length ≤ 100000 := by have := HGL.out; rw [← hGm, List.length_map] at this; exact this
  obtain ⟨ga, gc, rfl, hm3, hm4⟩ := hE2.form
  obtain ⟨n, Hn⟩ := hid_ex G.length
  have HE2 : Hid (EReads w2 (.slice ga n gc) G) := by rw [Hn.out]; exact hE2
  rw [← Hc.out, ← Hn.out]
  rw [← Hn.out] at hgl
  have hPost : Hid (∀ W' v xs, Below w.heap.size w W' → TReads W' v xs → xs.map itR = q → (∀ x ∈ xs, RwOk x) → RowsP R wm L w (.returned (.tuple #[v, .int .i64 c])) W') := fun W' v xs h1 h2 h3 h4 => ⟨h1, v, xs, by rw [Hc.out], h2, by rw [h3, Hq.out], h4⟩
  clear hfo hb2 hE2 hGm hGk Hc Hq HCN HGL HB1 HX1 hm3 hm4
  go_wp2_with fail
  go_loopw [10, 11] (fun o i wr => ∃ (k : Nat) (ys : List It), k ≤ n ∧ i = .int .i64 (k : Int) ∧ Hid (TH 42 w2.heap.size wr o ys) ∧ Hid (ys.map itR = (G.take k).map (rowE R)) ∧ Hid (∀ y ∈ ys, RwOk y) ∧ Hid (Below w2.heap.size w2 wr)) (fun _ i _ => n - (intOf i).toNat)
  case atStart => exact ⟨0, [], by omega, rfl, TH.nil _ _ _, by rw [List.take_zero]; rfl, (fun y hy => by cases hy), Below.refl _ _⟩
  case round =>
    obtain ⟨k, ys, hk, rfl, HO, HY, HOK, HW⟩ := hrel
    by_cases hlt : k < n
    · have hlt' : (k : Int) < (n : Int) := by omega
      have hkg : k < G.length := by rw [← Hn.out]; exact hlt
      obtain ⟨b, off, cap', hv, hbw⟩ := eReads_some HE2.out (by omega)
      simp only [Value.slice.injEq] at hv
      obtain ⟨rfl, -, rfl⟩ := hv
      obtain ⟨kv, hcw, hRw, hA⟩ := eReads_at HE2.out hkg rfl
      have hbr : b < wr.heap.size := Nat.lt_of_lt_of_le hbw HW.out.size
      obtain ⟨hR, ⟨hft, hgd⟩, hkl⟩ := HG.out G[k] (List.getElem_mem hkg)
      obtain ⟨D, f, g, hrd, hgl2, hmay, hf0, hf1, hs0, hs1, hg3⟩ := fit_row hR hft
      obtain ⟨Z, hZ⟩ : ∃ Z : Nat, R.sz g = (Z : Int) := ⟨(R.sz g).toNat, by omega⟩
      have HROW : Hid (∀ v, itR ⟨v, D, f, Z, G[k].2⟩ = rowE R G[k]) := fun v => by rw [rowE_of hrd]; simp [itR, hZ]
      have HROK : Hid (∀ v, RwOk ⟨v, D, f, Z, G[k].2⟩) := fun v => ⟨hmay, ⟨hf0, hf1⟩, ⟨by show 1 ≤ Z; omega, by show Z ≤ 1099511627776; omega⟩, hgd, hft.c⟩
      have HNX : Hid (∀ v, (ys ++ [(⟨v, D, f, Z, G[k].2⟩ : It)]).map itR = (G.take (k + 1)).map (rowE R)) := fun v => by
        rw [List.map_append, HY.out, List.take_succ_eq_append_getElem hkg, List.map_append, List.map_cons, List.map_cons, HROW.out]; rfl
      have HNOK : Hid (∀ v, ∀ y ∈ ys ++ [(⟨v, D, f, Z, G[k].2⟩ : It)], RwOk y) := fun v y hy => by
        rcases List.mem_append.1 hy with hy | hy
        · exact HOK.out y hy
        · obtain rfl : y = _ := by simpa using hy
          exact HROK.out v
      have hyl : ys.length < 1000000 := by
        have := congrArg List.length HY.out
        rw [List.length_map, List.length_map, List.length_take] at this
        omega
      obtain ⟨X, HX⟩ := hid_ex G[k]
      rw [← HX.out] at hcw hRw hkl hrd HNX HNOK
      obtain ⟨Xk, Xa⟩ := X
      simp only at hkl hRw hrd
      have hRr : Reads wr kv Xk := hRw.below HW.out
      obtain ⟨ak, ck, rfl, _⟩ := hRr.form
      obtain ⟨kn, Hkn⟩ := hid_ex Xk.length
      have HC0 : Hid (∀ i (hi : i < 7), wr.cell? ⟨b, off + k * 7 + i, none⟩ = some ((c7 ⟨.slice ak kn ck, Xk, Xa⟩)[i]'hi)) := fun i hi => by
        rw [Hkn.out]; exact (HW.out.cell (p := ⟨b, off + k * 7 + i, none⟩) hbw).trans (hcw i hi)
      have y0 := HC0.out 0 (by decide)
      simp only [c7, List.getElem_cons_zero, Nat.add_zero] at y0
      have HRC : Hid (Calls Tryz.prog 54 #[.slice ak kn ck] wr fun e w' => ∃ (va : Option Addr) (vn vc : Nat), e = .returned (.tuple #[.agg #[.slice va vn vc, .int .i64 f, .int .i64 (g : Int)], .int .i64 0]) ∧ SReads w' (.slice va vn vc) D ∧ (∀ k, (Value.slice va vn vc).ownBlock = some k → wr.heap.size < k) ∧ Below wr.heap.size wr w') := by
        rw [Hkn.out]
        refine (refRead_own _ Xk hkl wr hRr).mono ?_
        rintro e w' (⟨D', f', gI, vd, hrd', rfl, hkl5, hown5, hb5⟩ | ⟨hrd', rfl, hb5⟩)
        · rw [hrd] at hrd'
          simp only [Option.some.injEq, Prod.mk.injEq] at hrd'
          obtain ⟨rfl, rfl, rfl⟩ := hrd'
          obtain ⟨va, vc, hv, -⟩ := hkl5.r.form
          simp only at hv
          subst hv
          exact ⟨va, _, vc, rfl, hkl5.r, hown5, hb5⟩
        · rw [hrd] at hrd'; cases hrd'
      have HXr : Hid (RBox R w.heap.size wr) := HX2.out.below HW.out
      have HLr : Hid (Lies R wr.heap.size wr) := HL.out.at (HB2.out.trans (HW.out.mono HB2.out.size))
      clear hcw hRw hRr hrd hft hgd hmay HROW HROK HX Hkn HOK HY hA
      go_wp2_with fail
      refine HRC.out.mono ?_
      clear HRC y0
      rintro e w3 ⟨va, vn, vc, rfl, hsr3, hown3, hb3⟩
      obtain ⟨w4, HW4⟩ := hid_ex (w3.alloc (.cells #[.slice va vn vc, .int .i64 f, .int .i64 (g : Int)] 70))
      have hb4 : Below w3.heap.size w3 w4 := by rw [HW4.out]; exact new_below _ _
      have HY4 : Hid (w4.heap[w3.heap.size]? = some (.cells #[.slice va vn vc, .int .i64 f, .int .i64 (g : Int)] 70)) := by rw [HW4.out]; exact heap_alloc_new _ _
      have HBw4 : Hid (Below wr.heap.size wr w4) := hb3.trans (hb4.mono hb3.size)
      clear hb4
      have hw3l : w3.heap.size < w4.heap.size := (Array.getElem?_eq_some_iff.1 HY4.out).1
      have HRB : Hid (RBox R w.heap.size w4) := HXr.out.below HBw4.out
      have HL4 : Hid (Lies R w4.heap.size w4) := HLr.out.at HBw4.out
      obtain ⟨hrl, q0, _⟩ := HRB.out
      obtain ⟨hr2, _, _⟩ := HX2.out
      obtain ⟨gb, goff, hga, hgb, hgc⟩ := HL.out.2.2.resolve_left (by omega)
      have z0 := (hgc g hgl2).1
      rw [hZ] at z0
      rw [hga] at q0
      have hgl2' : (g : Int) < (R.len : Int) := by omega
      have hbw2 : Below w.heap.size w w4 := HB2.out.trans ((HW.out.trans (HBw4.out.mono HW.out.size)).mono HB2.out.size)
      have z4 := (hbw2.cell (p := ⟨gb, _, none⟩) hgb).trans z0
      have hs2 := HB2.out.size
      have hsw := HW.out.size
      have hs4 := HBw4.out.size
      have HSR4 : Hid (SReads w4.drew (.slice va vn vc) D) := hsr3.below ((by rw [HW4.out]; exact new_below _ _ : Below w3.heap.size w3 w4)).drew
      have HO4 : Hid (TH 42 w2.heap.size w4.drew u10 ys) := (HO.out.below HBw4.out).below (Below.refl _ _).drew
      have hapart : D ≠ [] → ∀ b, (Value.slice va vn vc).ownBlock = some b → u10.ownBlock ≠ some b := fun _ b hb e => by
        have h1 := hown3 b hb
        have h2 := (HO.out.k b e).2
        omega
      obtain ⟨v5, w5, hrun, hu5, hb5, hsz5, hkp5⟩ := HO4.out.app Tryz.underlying46 infoRf (show w2.heap.size ≤ w4.heap.size by omega) ⟨.slice va vn vc, D, f, Z, Xa⟩ HSR4.out hapart hyl
      simp only [c9] at hrun
      have HO5 : Hid (TH 42 w2.heap.size w5 v5 (ys ++ [⟨.slice va vn vc, D, f, Z, Xa⟩])) := hu5
      have HB5 : Hid (Below w2.heap.size w2 w5) := (HW.out.trans (HBw4.out.mono hsw)).trans ((Below.refl w2.heap.size w4).drew.trans hb5)
      have HK5 : Hid (∀ c, c < w4.heap.size → u10.ownBlock ≠ some c → w5.heap[c]? = w4.heap[c]?) := hkp5
      have hno : ∀ c, c < w2.heap.size → u10.ownBlock ≠ some c := fun c hc e => by have := (HO.out.k c e).1; omega
      have hno3 : u10.ownBlock ≠ some w3.heap.size := fun e => by have := (HO.out.k _ e).2; have := hb3.size; omega
      have HCL : Hid (∀ w' : World, (∀ c, c < w4.heap.size → u10.ownBlock ≠ some c → w'.heap[c]? = w4.heap[c]?) → w'.cell? ⟨w3.heap.size, 0, none⟩ = some (.slice va vn vc) ∧ w'.cell? ⟨w3.heap.size, 1, none⟩ = some (.int .i64 f) ∧ w'.cell? ⟨w3.heap.size, 2, none⟩ = some (.int .i64 (g : Int)) ∧ w'.cell? ⟨w.heap.size, 0, none⟩ = some (.slice (some ⟨gb, goff, none⟩) R.len R.cap) ∧ w'.cell? ⟨gb, goff + g * 2, none⟩ = some (.int .i64 (Z : Int)) ∧
          w'.cell? ⟨b, off + k * 7 + 1, none⟩ = some (.int .u64 Xa.c) ∧ w'.cell? ⟨b, off + k * 7 + 2, none⟩ = some (.bool Xa.o) ∧ w'.cell? ⟨b, off + k * 7 + 3, none⟩ = some (.int .i64 (hi Xa.s)) ∧ w'.cell? ⟨b, off + k * 7 + 4, none⟩ = some (.int .u64 (lo Xa.s)) ∧ w'.cell? ⟨b, off + k * 7 + 5, none⟩ = some (.int .i64 Xa.mn) ∧ w'.cell? ⟨b, off + k * 7 + 6, none⟩ = some (.int .i64 Xa.mx)) := fun w' hS => by
        have e := fun (c i : Nat) (h1 : c < w4.heap.size) (h2 : u10.ownBlock ≠ some c) => World.cell?_of_block (w := w4) (w' := w') (a := ⟨c, i, none⟩) (hS c h1 h2)
        have k0 := (cell_row HY4.out 0 (by simp)).1
        have k1 := (cell_row HY4.out 1 (by simp)).1
        have k2 := (cell_row HY4.out 2 (by simp)).1
        have hc := fun i (hi : i < 7) => (HBw4.out.cell (p := ⟨b, off + k * 7 + i, none⟩) hbr).trans (HC0.out i hi)
        exact ⟨(e _ _ hw3l hno3).trans k0, (e _ _ hw3l hno3).trans k1, (e _ _ hw3l hno3).trans k2, (e _ _ (by omega) (hno _ (by omega))).trans q0, (e _ _ (by omega) (hno _ (by omega))).trans z4,
          (e _ _ (by omega) (hno _ hbw)).trans (hc 1 (by decide)), (e _ _ (by omega) (hno _ hbw)).trans (hc 2 (by decide)), (e _ _ (by omega) (hno _ hbw)).trans (hc 3 (by decide)), (e _ _ (by omega) (hno _ hbw)).trans (hc 4 (by decide)), (e _ _ (by omega) (hno _ hbw)).trans (hc 5 (by decide)), (e _ _ (by omega) (hno _ hbw)).trans (hc 6 (by decide))⟩
      obtain ⟨oa, oc, hov, -⟩ := GOwn.form HO.out.o
      obtain ⟨M, HM9⟩ : ∃ m, Hid (ys.length = m) := ⟨_, rfl⟩
      rw [HM9.out] at hov
      subst hov
      clear hga hsr3 hown3 hb3 hrl q0 hgc hbw2 z0 z4 hapart hu5 hb5 hkp5 hno hno3 HO HO4 HSR4 HY4 HRB HL4 HXr HLr HC0 HBw4
      go_wp2_with fail
      rw [← HW4.out]
      clear HW4
      refine wp_region_noPanic ?_
      refine wp_region_held_drew (S := (fun w' : World => ∀ c, c < w4.heap.size → (Value.slice oa M oc).ownBlock ≠ some c → w'.heap[c]? = w4.heap[c]?)) (by kernel_rfl) ?_ (fun hHeld => ?_)
      · exact fun c _ _ => rfl
      refine wpAnyH_take (i := 0) (v := .slice oa M oc) rfl (by kernel_rfl) (by kernel_rfl) (by kernel_rfl) (fun _ _ _ h => h) (Or.inl ⟨by rfl, ?_⟩) (by assumption) ?_
      · (intro w1 hSw; (try dsimp only at hSw); go_simp)
      simp only [List.getElem_toArray, List.getElem_cons_zero, Act.put, List.setIfInBounds_toArray, List.set_cons_zero, List.set_cons_succ]
      refine wpAnyH_take (i := 1) (v := .pointer (some ⟨w3.heap.size, 0, none⟩)) rfl (by kernel_rfl) (by kernel_rfl) (by kernel_rfl) (fun _ _ _ h => h) (Or.inl ⟨by rfl, ?_⟩) (by assumption) ?_
      · (intro w1 hSw; (try dsimp only at hSw); go_simp)
      simp only [List.getElem_toArray, List.getElem_cons_succ, List.getElem_cons_zero, Act.put, List.setIfInBounds_toArray, List.set_cons_zero, List.set_cons_succ]
      refine wpAnyH_take (i := 2) (v := .slice va vn vc) rfl (by kernel_rfl) (by kernel_rfl) (by kernel_rfl) (fun _ _ _ h => h) (Or.inl ⟨by rfl, ?_⟩) (by assumption) ?_
      · (intro w1 hSw; (try dsimp only at hSw); obtain ⟨g0, g1, g2, g3, g4, g5, g6, g7, g8, g9, ga⟩ := HCL.out _ hSw; go_simp)
      simp only [List.getElem_toArray, List.getElem_cons_succ, List.getElem_cons_zero, Act.put, List.setIfInBounds_toArray, List.set_cons_zero, List.set_cons_succ]
      refine wpAnyH_take (i := 3) (v := .pointer (some ⟨w3.heap.size, 1, none⟩)) rfl (by kernel_rfl) (by kernel_rfl) (by kernel_rfl) (fun _ _ _ h => h) (Or.inl ⟨by rfl, ?_⟩) (by assumption) ?_
      · (intro w1 hSw; (try dsimp only at hSw); go_simp)
      simp only [List.getElem_toArray, List.getElem_cons_succ, List.getElem_cons_zero, Act.put, List.setIfInBounds_toArray, List.set_cons_zero, List.set_cons_succ]
      refine wpAnyH_take (i := 4) (v := .int .i64 f) rfl (by kernel_rfl) (by kernel_rfl) (by kernel_rfl) (fun _ _ _ h => h) (Or.inl ⟨by rfl, ?_⟩) (by assumption) ?_
      · (intro w1 hSw; (try dsimp only at hSw); obtain ⟨g0, g1, g2, g3, g4, g5, g6, g7, g8, g9, ga⟩ := HCL.out _ hSw; go_simp)
      simp only [List.getElem_toArray, List.getElem_cons_succ, List.getElem_cons_zero, Act.put, List.setIfInBounds_toArray, List.set_cons_zero, List.set_cons_succ]
      refine wpAnyH_take (i := 5) (v := .pointer (some ⟨w.heap.size, 0, none⟩)) rfl (by kernel_rfl) (by kernel_rfl) (by kernel_rfl) (fun _ _ _ h => h) (Or.inl ⟨by rfl, ?_⟩) (by assumption) ?_
      · (intro w1 hSw; (try dsimp only at hSw); go_simp)
      simp only [List.getElem_toArray, List.getElem_cons_succ, List.getElem_cons_zero, Act.put, List.setIfInBounds_toArray, List.set_cons_zero, List.set_cons_succ]
      refine wpAnyH_take (i := 6) (v := .slice (some ⟨gb, goff, none⟩) R.len R.cap) rfl (by kernel_rfl) (by kernel_rfl) (by kernel_rfl) (fun _ _ _ h => h) (Or.inl ⟨by rfl, ?_⟩) (by assumption) ?_
      · (intro w1 hSw; (try dsimp only at hSw); obtain ⟨g0, g1, g2, g3, g4, g5, g6, g7, g8, g9, ga⟩ := HCL.out _ hSw; go_simp)
      simp only [List.getElem_toArray, List.getElem_cons_succ, List.getElem_cons_zero, Act.put, List.setIfInBounds_toArray, List.set_cons_zero, List.set_cons_succ]
      refine wpAnyH_take (i := 7) (v := .pointer (some ⟨w3.heap.size, 2, none⟩)) rfl (by kernel_rfl) (by kernel_rfl) (by kernel_rfl) (fun _ _ _ h => h) (Or.inl ⟨by rfl, ?_⟩) (by assumption) ?_
      · (intro w1 hSw; (try dsimp only at hSw); go_simp)
      simp only [List.getElem_toArray, List.getElem_cons_succ, List.getElem_cons_zero, Act.put, List.setIfInBounds_toArray, List.set_cons_zero, List.set_cons_succ]
      refine wpAnyH_take (i := 8) (v := .int .i64 (g : Int)) rfl (by kernel_rfl) (by kernel_rfl) (by kernel_rfl) (fun _ _ _ h => h) (Or.inl ⟨by rfl, ?_⟩) (by assumption) ?_
      · (intro w1 hSw; (try dsimp only at hSw); obtain ⟨g0, g1, g2, g3, g4, g5, g6, g7, g8, g9, ga⟩ := HCL.out _ hSw; go_simp)
      simp only [List.getElem_toArray, List.getElem_cons_succ, List.getElem_cons_zero, Act.put, List.setIfInBounds_toArray, List.set_cons_zero, List.set_cons_succ]
      refine wpAnyH_take (i := 9) (v := .pointer (some ⟨gb, goff + g * 2, none⟩)) rfl (by kernel_rfl) (by kernel_rfl) (by kernel_rfl) (fun _ _ _ h => h) (Or.inl ⟨by rfl, ?_⟩) (by assumption) ?_
      · (intro w1 hSw; (try dsimp only at hSw); go_simp)
      simp only [List.getElem_toArray, List.getElem_cons_succ, List.getElem_cons_zero, Act.put, List.setIfInBounds_toArray, List.set_cons_zero, List.set_cons_succ]
      refine wpAnyH_take (i := 10) (v := .pointer (some ⟨gb, goff + g * 2, none⟩)) rfl (by kernel_rfl) (by kernel_rfl) (by kernel_rfl) (fun _ _ _ h => h) (Or.inl ⟨by rfl, ?_⟩) (by assumption) ?_
      · (intro w1 hSw; (try dsimp only at hSw); go_simp)
      simp only [List.getElem_toArray, List.getElem_cons_succ, List.getElem_cons_zero, Act.put, List.setIfInBounds_toArray, List.set_cons_zero, List.set_cons_succ]
      refine wpAnyH_take (i := 11) (v := .int .i64 (Z : Int)) rfl (by kernel_rfl) (by kernel_rfl) (by kernel_rfl) (fun _ _ _ h => h) (Or.inl ⟨by rfl, ?_⟩) (by assumption) ?_
      · (intro w1 hSw; (try dsimp only at hSw); obtain ⟨g0, g1, g2, g3, g4, g5, g6, g7, g8, g9, ga⟩ := HCL.out _ hSw; go_simp)
      simp only [List.getElem_toArray, List.getElem_cons_succ, List.getElem_cons_zero, Act.put, List.setIfInBounds_toArray, List.set_cons_zero, List.set_cons_succ]
      refine wpAnyH_take (i := 12) (v := .slice (some ⟨b, off, none⟩) n gc) rfl (by kernel_rfl) (by kernel_rfl) (by kernel_rfl) (fun _ _ _ h => h) (Or.inl ⟨by rfl, ?_⟩) (by assumption) ?_
      · (intro w1 hSw; (try dsimp only at hSw); go_simp)
      simp only [List.getElem_toArray, List.getElem_cons_succ, List.getElem_cons_zero, Act.put, List.setIfInBounds_toArray, List.set_cons_zero, List.set_cons_succ]
      refine wpAnyH_take (i := 13) (v := .int .i64 (k : Int)) rfl (by kernel_rfl) (by kernel_rfl) (by kernel_rfl) (fun _ _ _ h => h) (Or.inl ⟨by rfl, ?_⟩) (by assumption) ?_
      · (intro w1 hSw; (try dsimp only at hSw); go_simp)
      simp only [List.getElem_toArray, List.getElem_cons_succ, List.getElem_cons_zero, Act.put, List.setIfInBounds_toArray, List.set_cons_zero, List.set_cons_succ]
      refine wpAnyH_take (i := 14) (v := .pointer (some ⟨b, off + k * 7, none⟩)) rfl (by kernel_rfl) (by kernel_rfl) (by kernel_rfl) (fun _ _ _ h => h) (Or.inl ⟨by rfl, ?_⟩) (by assumption) ?_
      · (intro w1 hSw; (try dsimp only at hSw); go_simp)
      simp only [List.getElem_toArray, List.getElem_cons_succ, List.getElem_cons_zero, Act.put, List.setIfInBounds_toArray, List.set_cons_zero, List.set_cons_succ]
      refine wpAnyH_take (i := 15) (v := .pointer (some ⟨b, off + k * 7 + 1, none⟩)) rfl (by kernel_rfl) (by kernel_rfl) (by kernel_rfl) (fun _ _ _ h => h) (Or.inl ⟨by rfl, ?_⟩) (by assumption) ?_
      · (intro w1 hSw; (try dsimp only at hSw); go_simp)
      simp only [List.getElem_toArray, List.getElem_cons_succ, List.getElem_cons_zero, Act.put, List.setIfInBounds_toArray, List.set_cons_zero, List.set_cons_succ]
      refine wpAnyH_take (i := 16) (v := .agg #[.int .u64 Xa.c, .bool Xa.o, .int .i64 (hi Xa.s), .int .u64 (lo Xa.s), .int .i64 Xa.mn, .int .i64 Xa.mx]) rfl (by kernel_rfl) (by kernel_rfl) (by kernel_rfl) (fun _ _ _ h => h) (Or.inl ⟨by rfl, ?_⟩) (by assumption) ?_
      · (intro w1 hSw; (try dsimp only at hSw); obtain ⟨g0, g1, g2, g3, g4, g5, g6, g7, g8, g9, ga⟩ := HCL.out _ hSw; go_simp)
      simp only [List.getElem_toArray, List.getElem_cons_succ, List.getElem_cons_zero, Act.put, List.setIfInBounds_toArray, List.set_cons_zero, List.set_cons_succ]
      refine wpAnyH_take (i := 17) (v := .agg #[.slice va vn vc, .int .i64 f, .int .i64 (Z : Int), .int .u64 Xa.c, .bool Xa.o, .int .i64 (hi Xa.s), .int .u64 (lo Xa.s), .int .i64 Xa.mn, .int .i64 Xa.mx]) rfl (by kernel_rfl) (by kernel_rfl) (by kernel_rfl) (fun _ _ _ h => h) (Or.inl ⟨by rfl, ?_⟩) (by assumption) ?_
      · (intro w1 hSw; (try dsimp only at hSw); go_simp)
      simp only [List.getElem_toArray, List.getElem_cons_succ, List.getElem_cons_zero, Act.put, List.setIfInBounds_toArray, List.set_cons_zero, List.set_cons_succ]
      refine wpAnyH_ready (rs := [18]) (by kernel_rfl) (by simp) ?_
      refine AllReadyH.cons (o := _) rfl (fun K hK => ?_) AllReadyH.nil
      go_simp
      refine hK.out _ _ ?_ (fun hHeld => ?_)
      · exact fun c hc _ => Below.heap_alloc _ _ _ hc
      clear hK K
      refine wpAnyH_ready (rs := [19]) (by kernel_rfl) (by simp) ?_
      refine AllReadyH.cons (o := _) rfl (fun K hK => ?_) AllReadyH.nil
      refine wp_app_runG (.tmp 36) (.tmp 54) 46 46 rfl rfl _ _ _ (by simp [Act.eval]) (by simp [Act.eval]) hrun ?_
      simp only [List.getElem_toArray, List.getElem_cons_succ, List.getElem_cons_zero, Act.put, List.setIfInBounds_toArray, List.set_cons_zero, List.set_cons_succ]
      refine hK.out _ _ ?_ (fun hHeld => ?_)
      · exact HK5.out
      clear hK K
      refine wpAnyH_ready (rs := [20]) (by kernel_rfl) (by simp) ?_
      refine AllReadyH.cons (o := _) rfl (fun K hK => ?_) AllReadyH.nil
      go_simp
      refine hK.out _ _ ?_ (fun hHeld => ?_)
      · exact HK5.out
      clear hK K
      refine wpAnyH_done (by kernel_rfl) ?_ _
      refine NoPanic.normal ?_
      have HN5 : Hid ((ys ++ [(⟨.slice va vn vc, D, f, Z, Xa⟩ : It)]).map itR = (G.take (k + 1)).map (rowE R)) := HNX.out _
      have HO6 : Hid (∀ y ∈ ys ++ [(⟨.slice va vn vc, D, f, Z, Xa⟩ : It)], RwOk y) := HNOK.out _
      go_wp2_with fail
      go_roundw
      case rel => exact ⟨k + 1, _, by omega, by go_num, HO5, HN5, HO6, HB5⟩
      case measure => simp [intOf]; omega
    · obtain rfl : k = n := by omega
      have HT : Hid (TReads wr u10 ys) := HO.out.reads
      have HME : Hid (ys.map itR = q) := by
        show _ = _
        rw [HY.out, List.take_of_length_le (by rw [Hn.out]; exact Nat.le_refl _), HM.out]
      have hlt' : ¬ (k : Int) < (k : Int) := by omega
      have HBr : Hid (Below w.heap.size w wr) := HB2.out.trans (HW.out.mono HB2.out.size)
      clear HO HY HW
      go_wp2_with fail
      go_ret2
      exact hPost.out _ _ _ HBr.out HT.out HME.out HOK.out
end Go.Proofs.YtoenijflijfogaaGreat
