/- AQ1 AQ2 AQ3, joined. -/
import Derived.Test.YtoenijflijfogaaGreatRC5
import Derived.Test.YtoenijflijfogaaGreatRC8
import Derived.Test.YtoenijflijfogaaGreatRC22
import Derived.Test.YtoenijflijfogaaGreatRC24
/- The contract of ask's folded. -/
namespace Go.Proofs.YtoenijflijfogaaGreat
open Go.RowKit

theorem eReads_cn {w : World} {v : Value} {L : List En} (h : EReads w v L) : ∀ x ∈ L, CnOk x.2 := by
  intro x hx
  obtain ⟨j, hj, rfl⟩ := List.getElem_of_mem hx
  obtain ⟨a, cap, rfl, hm1, hm2⟩ := h.form
  obtain ⟨b, off, cap', hv, hbw⟩ := eReads_some h (by omega)
  simp at hv
  obtain ⟨rfl, rfl⟩ := hv
  obtain ⟨kv, hcw, hRw, hA⟩ := eReads_at h hj rfl
  exact hA
/-- What folded tells. -/
def F17 (R : Rl) (wm : Int) (L : List En) (w : World) (e : Ending) (w' : World) : Prop :=
  Below w.heap.size w w' ∧ ((chkF R wm L ≠ 0 ∧ e = .returned (.tuple #[.slice none 0 0, .int .i64 (chkF R wm L)])) ∨ (chkF R wm L = 0 ∧ ∃ g xs, e = .returned (.tuple #[.slice (some ⟨g, 0, none⟩) xs.length xs.length, .int .i64 0]) ∧ TReads w' (.slice (some ⟨g, 0, none⟩) xs.length xs.length) xs ∧ xs.map itR = rowsE R wm L ∧ ∀ x ∈ xs, RwOk x))
/-- What its loop keeps. -/
structure AkI (R : Rl) (G : List En) (V : World) (k : Nat) (xs : List It) (wr : World) : Prop where
  l : xs.length = k
  m : xs.map itR = (G.take k).map (rowE R)
  r : wr.ownsRow V.heap.size 38 9 (.slice (some ⟨V.heap.size, 0, none⟩) G.length G.length) G.length ((xs ++ List.replicate (G.length - k) itZ).flatMap c9)
  s : ∀ x ∈ xs, SReads wr x.v x.D ∧ ∀ b, x.v.ownBlock = some b → V.heap.size < b
  ok : ∀ x ∈ xs, RwOk x
  b : Below V.heap.size V wr
theorem AkI.below {R : Rl} {G : List En} {V : World} {k : Nat} {xs : List It} {wr W : World} (h : AkI R G V k xs wr) (hb : Below wr.heap.size wr W) : AkI R G V k xs W :=
  ⟨h.l, h.m, row_below h.r hb, fun x hx => ⟨(h.s x hx).1.below hb, (h.s x hx).2⟩, h.ok, h.b.trans (hb.mono h.b.size)⟩
theorem sreads_stT {w W : World} {v : Value} {D : List ByteArray} {g off : Nat} {cur : Array Value} {T : TypeId} {vs : List Value} (h : SReads w v D) (hW : StW w W g off cur T vs) (hne : ∀ b, v.ownBlock = some b → b ≠ g) : SReads W v D := by
  have hs := (hW.b 0 (Nat.zero_le _)).size
  rcases h with h | ⟨b, off, cap, h1, h2, h3, h4, h5, h6, h7⟩
  · exact .inl h
  · refine .inr ⟨b, off, cap, h1, h2, h3, h4, Nat.lt_of_lt_of_le h5 hs, fun j hj => ?_, h7⟩
    have hk := hW.o b (hne b (by rw [h1]; rfl))
    rw [← h6 j hj]
    exact World.cell?_of_block hk
theorem AkI.store {R : Rl} {G : List En} {V : World} {k : Nat} {xs : List It} {w W : World} {cur : Array Value} {y : It} (h : AkI R G V k xs w) (hk : k < G.length) (hcur : w.heap[V.heap.size]? = some (.cells cur 38)) (hW : StW w W V.heap.size (k * 9) cur 38 (c9 y)) (hy : itR y = rowE R G[k]) (hok : RwOk y) (hs : SReads w y.v y.D) (hb : ∀ b, y.v.ownBlock = some b → V.heap.size < b) : AkI R G V (k + 1) (xs ++ [y]) W := by
  have hrW := row_setT (y := y) h.r hcur hW (by simp [h.l]; omega)
  have e1 : (xs ++ List.replicate (G.length - k) itZ).set k y = (xs ++ [y]) ++ List.replicate (G.length - (k + 1)) itZ := by
    rw [List.set_append_right _ _ (by rw [h.l]; omega), h.l, Nat.sub_self, show G.length - k = (G.length - (k + 1)) + 1 by omega, List.replicate_succ, List.set_cons_zero, List.append_assoc]
    rfl
  rw [e1] at hrW
  refine ⟨by simp [h.l], ?_, hrW, fun x hx => ?_, fun x hx => ?_, h.b.trans (hW.b _ (Nat.le_refl _))⟩
  · rw [List.map_append, h.m, List.take_add_one, List.getElem?_eq_getElem hk, List.map_append, ← hy_map hy]
  · rcases List.mem_append.1 hx with hx | hx
    · exact ⟨sreads_stT (h.s x hx).1 hW (fun b hb' => by have := (h.s x hx).2 b hb'; omega), (h.s x hx).2⟩
    · obtain rfl : x = y := by simpa using hx
      exact ⟨sreads_stT hs hW (fun b hb' => by have := hb b hb'; omega), hb⟩
  · rcases List.mem_append.1 hx with hx | hx
    · exact h.ok x hx
    · obtain rfl : x = y := by simpa using hx
      exact hok
where
  hy_map {R : Rl} {y : It} {x : En} (h : itR y = rowE R x) : [y].map itR = ((some x).toList).map (rowE R) := by simp [h]
set_option maxRecDepth 100000 in
set_option maxHeartbeats 8000000 in
theorem folded17_any (R : Rl) (wm : Int) (v : Value) (L : List En) (w : World) (hL : Lies R w.heap.size w) (hE : EReads w v L) (hl : L.length ≤ 100000) (hk : ∀ x ∈ L, x.1.length ≤ 1000) :
    Calls Tryz.prog 22 #[.agg #[.slice R.a R.len R.cap, .int .i64 R.kp], .int .i64 wm, v] w (F17 R wm L w) := by
  have HE : Hid (EReads w v L) := hE
  have HL : Hid (Lies R w.heap.size w) := hL
  have HK : Hid _ := hk
  obtain ⟨a, cap, rfl, hm1, hm2⟩ := hE.form
  clear hE hL hk
  obtain ⟨w1, HW1⟩ := hid_ex (w.alloc (.cells #[.slice R.a R.len R.cap, .int .i64 R.kp] 24))
  have hb1 : Below w.heap.size w w1 := by rw [HW1.out]; exact new_below _ _
  have HX1 : Hid (RBox R w.heap.size w1) := by rw [HW1.out]; exact RBox.new R w _
  have HL1 : Hid (Lies R w1.heap.size w1) := HL.out.at hb1
  have HE1 : Hid (EReads w1 (.slice a L.length cap) L) := HE.out.below hb1
  have HB1 : Hid _ := hb1
  obtain ⟨_, c0, c1⟩ := HX1.out
  clear hb1
  go_enter Tryz.func22, Tryz.ntmps22
  go_wp2_with fail
  rw [← HW1.out]
  clear HW1
  refine (fold_any R wm _ L _ HL1.out HE1.out hl HK.out).mono ?_
  rintro e w2 ⟨hb2, ⟨hne, rfl⟩ | ⟨hz, v2, rfl, hr2⟩⟩
  · have hb0 : (chkF R wm L == 0) = false := by simp [hne]
    have hb0' : (chkF R wm L != 0) = true := by simp [hne]
    have HEnd : Hid (F17 R wm L w (.returned (.tuple #[.slice none 0 0, .int .i64 (chkF R wm L)])) w2) := ⟨HB1.out.trans (hb2.mono HB1.out.size), .inl ⟨hne, rfl⟩⟩
    clear hne hb2
    generalize chkF R wm L = rr at *
    go_wp2_with fail
    go_ret2
    exact HEnd.out
  · obtain ⟨_, hR, _, _, _⟩ := chkF_ok hz
    have HR : Hid (RightP R) := hR
    have HZ : Hid (chkF R wm L = 0) := hz
    have HFT : Hid (∀ x ∈ foldF R wm L, (FitE R x ∧ Gd x.2) ∧ x.1.length ≤ 1000) := folded_fit hz (eReads_cn HE.out)
    have hgl : (foldF R wm L).length ≤ 100000 := Nat.le_trans (foldF_len R wm L) hl
    obtain ⟨G, HG⟩ := hid_ex (foldF R wm L)
    rw [← HG.out] at hr2 HFT hgl
    have HB2 : Hid (Below w.heap.size w w2) := HB1.out.trans (hb2.mono HB1.out.size)
    have HX2 : Hid (RBox R w.heap.size w2) := HX1.out.below hb2
    have HL2 : Hid (Lies R w2.heap.size w2) := HL.out.at HB2.out
    have HE2 : Hid (EReads w2 v2 G) := hr2
    obtain ⟨ga, gc, rfl, hm3, hm4⟩ := hr2.form
    unfold maxLen at hm4
    obtain ⟨i0, hi, hz0, hz1, hz2⟩ := info_parts infoRw
    obtain ⟨w3, hr3, hown3, hg3⟩ := run_make_full (P := Tryz.prog) w2 w2.heap.size 48 38 i0 _ 9 Tryz.underlying48 hi hz0 hz1 .i64 .i64 G.length (by rw [hz2]; omega) (by unfold maxLen; omega) (Nat.le_refl _)
    rw [made9] at hown3
    have HI0 : Hid (AkI R G w2 0 [] w3) := ⟨rfl, rfl, by simpa using hown3, fun x hx => (by cases hx), fun x hx => (by cases hx), (Below.refl _ _).grown hg3 (Nat.le_refl _) (fun k e => by cases e)⟩
    clear hown3 hg3 hi hz0 hz1 hz2 hz hb2 hR HB1 HX1 HL1 HE1 hr2 c0 c1 HE HK
    go_wp2_with fail
    go_loopw [30] (fun i wr => ∃ (k : Nat) (xs : List It), k ≤ G.length ∧ i = .int .i64 (k : Int) ∧ Hid (AkI R G w2 k xs wr)) (fun i _ => G.length - (intOf i).toNat)
    case atStart => exact ⟨0, [], by omega, rfl, HI0⟩
    case round =>
      clear HI0 hr3
      obtain ⟨k, xs, hk, rfl, HC⟩ := hrel
      by_cases hlt : k < G.length
      · obtain ⟨b, off, cap', hv, hbw⟩ := eReads_some HE2.out (by omega)
        simp at hv
        obtain ⟨rfl, rfl⟩ := hv
        obtain ⟨kv, hcw, hRw, hA⟩ := eReads_at HE2.out hlt rfl
        have hc : ∀ i (hi : i < 7), wr.cell? ⟨b, off + k * 7 + i, none⟩ = some ((c7 ⟨kv, G[k].1, G[k].2⟩)[i]'hi) := fun i hi => (HC.out.b.cell (p := ⟨b, off + k * 7 + i, none⟩) hbw).trans (hcw i hi)
        have hR := hRw.below HC.out.b
        obtain ⟨⟨hft, hgd⟩, hkl⟩ := HFT.out G[k] (List.getElem_mem hlt)
        obtain ⟨D, f, g, hrd, hgl2, hmay, hf0, hf1, hs0, hs1, hg3⟩ := fit_row HR.out hft
        obtain ⟨Z, hZ⟩ : ∃ Z : Nat, R.sz g = (Z : Int) := ⟨(R.sz g).toNat, by omega⟩
        have hrow : ∀ v, itR ⟨v, D, f, Z, G[k].2⟩ = rowE R G[k] := fun v => by rw [rowE_of hrd]; simp [itR, hZ]
        have HOK : Hid (∀ v, RwOk ⟨v, D, f, Z, G[k].2⟩) := fun v => ⟨hmay, ⟨hf0, hf1⟩, ⟨by show 1 ≤ Z; omega, by show Z ≤ 1099511627776; omega⟩, hgd, hft.c⟩
        have HST : Hid (∀ {w W : World} {cur : Array Value} {v : Value}, AkI R G w2 k xs w → w.heap[w2.heap.size]? = some (.cells cur 38) → StW w W w2.heap.size (k * 9) cur 38 (c9 ⟨v, D, f, Z, G[k].2⟩) → SReads w v D → (∀ b, v.ownBlock = some b → w2.heap.size < b) → AkI R G w2 (k + 1) (xs ++ [⟨v, D, f, Z, G[k].2⟩]) W) := fun h1 h2 h3 h4 h5 => h1.store hlt h2 h3 (hrow _) (HOK.out _) h4 h5
        obtain ⟨X, HX⟩ := hid_ex G[k]
        rw [← HX.out] at hR hRw hA hc hkl HST hrd
        clear hcw hrow HOK hft hgd hmay hf0 hf1
        have c0 := hc 0 (by decide)
        have c1 := hc 1 (by decide)
        have c2 := hc 2 (by decide)
        have c3 := hc 3 (by decide)
        have c4 := hc 4 (by decide)
        have c5 := hc 5 (by decide)
        have c6 := hc 6 (by decide)
        simp only [c7, List.getElem_cons_zero, List.getElem_cons_succ, Nat.add_zero] at c0 c1 c2 c3 c4 c5 c6
        obtain ⟨ak, ck, hkv, _⟩ := hR.form
        subst hkv
        obtain ⟨w4, HW4⟩ := hid_ex (wr.alloc (.cells #[.slice ak X.1.length ck, .int .u64 X.2.c, .bool X.2.o, .int .i64 (hi X.2.s), .int .u64 (lo X.2.s), .int .i64 X.2.mn, .int .i64 X.2.mx] 60))
        have hb4 : Below wr.heap.size wr w4 := by rw [HW4.out]; exact (Below.refl _ _).alloc (Nat.le_refl _) _
        have HR4 : Hid (Reads w4 (.slice ak X.1.length ck) X.1) := hR.below hb4
        have HBX : Hid (w4.heap[wr.heap.size]? = some (.cells #[.slice ak X.1.length ck, .int .u64 X.2.c, .bool X.2.o, .int .i64 (hi X.2.s), .int .u64 (lo X.2.s), .int .i64 X.2.mn, .int .i64 X.2.mx] 60)) := by rw [HW4.out]; exact heap_alloc_new _ _
        have HC4 : Hid (AkI R G w2 k xs w4) := HC.out.below hb4
        obtain ⟨kn, Hkn⟩ := hid_ex X.1.length
        rw [← Hkn.out] at c0 HW4 HR4 HBX
        have b0 := (cell_row HBX.out 0 (by simp)).1
        simp only [List.getElem_toArray, List.getElem_cons_zero] at b0
        clear hc hR hRw hb4 HC
        go_wp2_with fail
        rw [← HW4.out]
        clear c0 c1 c2 c3 c4 c5 c6 HW4 b0
        refine (read_own _ X.1 hkl _ HR4.out).mono ?_
        rintro e w5 (⟨D', f', gI, vd, hrd', rfl, hkl5, hown5, hb5⟩ | ⟨hrd', rfl, hb5⟩)
        · rw [hrd] at hrd'
          simp only [Option.some.injEq, Prod.mk.injEq] at hrd'
          obtain ⟨rfl, rfl, rfl⟩ := hrd'
          have HC5 : Hid (AkI R G w2 k xs w5) := HC4.out.below hb5
          have HX5 : Hid (w5.heap[wr.heap.size]? = some (.cells #[.slice ak kn ck, .int .u64 X.2.c, .bool X.2.o, .int .i64 (hi X.2.s), .int .u64 (lo X.2.s), .int .i64 X.2.mn, .int .i64 X.2.mx] 60)) := (hb5.block _ (Array.getElem?_eq_some_iff.1 HBX.out).1).trans HBX.out
          obtain ⟨va, vc, hvd, _⟩ := hkl5.r.form
          simp only at hvd
          subst hvd
          have HSR5 : Hid (SReads w5 (.slice va D.length vc) D) := hkl5.r
          have HOW : Hid (∀ b, (Value.slice va D.length vc).ownBlock = some b → w2.heap.size < b) := fun b hb => by have h1 := hown5 b hb; have h2 := HC4.out.b.size; omega
          obtain ⟨dn, Hdn⟩ := hid_ex D.length
          rw [← Hdn.out] at HSR5 HOW ⊢
          obtain ⟨w6, HW6⟩ := hid_ex (w5.alloc (.cells #[.slice va dn vc, .int .i64 f, .int .i64 (g : Int)] 70))
          have hb6 : Below w5.heap.size w5 w6 := by rw [HW6.out]; exact new_below _ _
          have HC6 : Hid (AkI R G w2 k xs w6) := HC5.out.below hb6
          have HX6 : Hid (w6.heap[wr.heap.size]? = some (.cells #[.slice ak kn ck, .int .u64 X.2.c, .bool X.2.o, .int .i64 (hi X.2.s), .int .u64 (lo X.2.s), .int .i64 X.2.mn, .int .i64 X.2.mx] 60)) := (hb6.block _ (Array.getElem?_eq_some_iff.1 HX5.out).1).trans HX5.out
          have HY6 : Hid (w6.heap[w5.heap.size]? = some (.cells #[.slice va dn vc, .int .i64 f, .int .i64 (g : Int)] 70)) := by rw [HW6.out]; exact heap_alloc_new _ _
          have HSR6 : Hid (SReads w6 (.slice va dn vc) D) := HSR5.out.below hb6
          have HRX : Hid (RBox R w.heap.size w6) := (HX2.out.below (HC6.out.b))
          have HL6 : Hid (Lies R w6.heap.size w6) := HL2.out.at HC6.out.b
          have hbx := (cell_row HX6.out 1 (by simp)).1
          have d1 := (cell_row HX6.out 1 (by simp)).1
          have d2 := (cell_row HX6.out 2 (by simp)).1
          have d3 := (cell_row HX6.out 3 (by simp)).1
          have d4 := (cell_row HX6.out 4 (by simp)).1
          have d5 := (cell_row HX6.out 5 (by simp)).1
          have d6 := (cell_row HX6.out 6 (by simp)).1
          have e0 := (cell_row HY6.out 0 (by simp)).1
          have e1 := (cell_row HY6.out 1 (by simp)).1
          have e2 := (cell_row HY6.out 2 (by simp)).1
          simp only [List.getElem_toArray, List.getElem_cons_zero, List.getElem_cons_succ] at d1 d2 d3 d4 d5 d6 e0 e1 e2
          obtain ⟨_, r0, _⟩ := HRX.out
          obtain ⟨gb, goff, hga, hgb, hgc⟩ := HL6.out.2.2.resolve_left (by omega)
          have z0 := (hgc g hgl2).1
          rw [hZ] at z0
          rw [hga] at r0
          clear hga
          have hgl2' : (g : Int) < (R.len : Int) := by omega
          obtain ⟨cur, hcur⟩ := row_block HC6.out.r
          have hfit : k * 9 + 9 ≤ cur.size := by
            rcases HC6.out.r.2 with ⟨q, _⟩ | ⟨g', c', cur0, q, _, hw, hc1, _, hs, _⟩
            · simp at q
            · simp at q
              obtain ⟨rfl, rfl⟩ := q
              rw [hcur] at hw
              simp at hw
              subst hw
              omega
          have HCUR : Hid (w6.heap[w2.heap.size]? = some (.cells cur 38)) := hcur
          clear hkl5 hown5 hb5 hb6 HC5 HX5 HSR5 HBX HR4 hbx hgc hcur HC4
          go_wp2_with fail
          rw [← HW6.out]
          clear HW6
          refine wp_region_noPanic ?_
          refine wp_region_S 17 (fun _ => True) (fun w' => w'.cell? ⟨wr.heap.size, 1, none⟩ = some (.int .u64 X.2.c) ∧ w'.cell? ⟨wr.heap.size, 2, none⟩ = some (.bool X.2.o) ∧ w'.cell? ⟨wr.heap.size, 3, none⟩ = some (.int .i64 (hi X.2.s)) ∧ w'.cell? ⟨wr.heap.size, 4, none⟩ = some (.int .u64 (lo X.2.s)) ∧ w'.cell? ⟨wr.heap.size, 5, none⟩ = some (.int .i64 X.2.mn) ∧ w'.cell? ⟨wr.heap.size, 6, none⟩ = some (.int .i64 X.2.mx) ∧ w'.cell? ⟨w5.heap.size, 0, none⟩ = some (.slice va dn vc) ∧ w'.cell? ⟨w5.heap.size, 1, none⟩ = some (.int .i64 f) ∧ w'.cell? ⟨w5.heap.size, 2, none⟩ = some (.int .i64 (g : Int)) ∧ w'.cell? ⟨w.heap.size, 0, none⟩ = some (.slice (some ⟨gb, goff, none⟩) R.len R.cap) ∧ w'.cell? ⟨gb, goff + g * 2, none⟩ = some (.int .i64 (Z : Int))) (by kernel_rfl) ?_ ?_ (fun hHeld => ?_)
          · trivial
          · exact ⟨d1, d2, d3, d4, d5, d6, e0, e1, e2, r0, z0⟩
          refine wpAnyS_take (i := 0) (v := .slice (some ⟨w2.heap.size, 0, none⟩) G.length G.length) _ rfl (by kernel_rfl) (by kernel_rfl) (by kernel_rfl) (by kernel_rfl) (by kernel_rfl) rfl (fun _ _ _ h => h) (Or.inl ⟨by rfl, ?_⟩) hHeld (fun hHeld => ?_)
          · (intro w1 hSw; have hSw := hSw.1; (try dsimp only at hSw); go_simp)
          simp only [List.getElem_toArray, List.getElem_cons_zero, Act.put, List.setIfInBounds_toArray, List.set_cons_zero, List.set_cons_succ]
          refine wpAnyS_take (i := 1) (v := .int .i64 (k : Int)) _ rfl (by kernel_rfl) (by kernel_rfl) (by kernel_rfl) (by kernel_rfl) (by kernel_rfl) rfl (fun _ _ _ h => h) (Or.inl ⟨by rfl, ?_⟩) hHeld (fun hHeld => ?_)
          · (intro w1 hSw; have hSw := hSw.1; (try dsimp only at hSw); go_simp)
          simp only [List.getElem_toArray, List.getElem_cons_succ, List.getElem_cons_zero, Act.put, List.setIfInBounds_toArray, List.set_cons_zero, List.set_cons_succ]
          refine wpAnyS_take (i := 2) (v := .pointer (some ⟨w5.heap.size, 0, none⟩)) _ rfl (by kernel_rfl) (by kernel_rfl) (by kernel_rfl) (by kernel_rfl) (by kernel_rfl) rfl (fun _ _ _ h => h) (Or.inl ⟨by rfl, ?_⟩) hHeld (fun hHeld => ?_)
          · (intro w1 hSw; have hSw := hSw.1; (try dsimp only at hSw); go_simp)
          simp only [List.getElem_toArray, List.getElem_cons_succ, List.getElem_cons_zero, Act.put, List.setIfInBounds_toArray, List.set_cons_zero, List.set_cons_succ]
          refine wpAnyS_take (i := 3) (v := .slice va dn vc) true rfl (by kernel_rfl) (by kernel_rfl) (by kernel_rfl) (by kernel_rfl) (by kernel_rfl) (by kernel_rfl) (fun _ _ _ h => h) (Or.inl ⟨by rfl, ?_⟩) hHeld (fun hHeld => ?_)
          · (intro w1 hSw; have hSw2 := hSw.2 rfl; have hSw := hSw.1; (try dsimp only at hSw hSw2); go_simp)
          simp only [List.getElem_toArray, List.getElem_cons_succ, List.getElem_cons_zero, Act.put, List.setIfInBounds_toArray, List.set_cons_zero, List.set_cons_succ]
          refine wpAnyS_take (i := 4) (v := .pointer (some ⟨w5.heap.size, 1, none⟩)) _ rfl (by kernel_rfl) (by kernel_rfl) (by kernel_rfl) (by kernel_rfl) (by kernel_rfl) rfl (fun _ _ _ h => h) (Or.inl ⟨by rfl, ?_⟩) hHeld (fun hHeld => ?_)
          · (intro w1 hSw; have hSw := hSw.1; (try dsimp only at hSw); go_simp)
          simp only [List.getElem_toArray, List.getElem_cons_succ, List.getElem_cons_zero, Act.put, List.setIfInBounds_toArray, List.set_cons_zero, List.set_cons_succ]
          refine wpAnyS_take (i := 5) (v := .int .i64 f) true rfl (by kernel_rfl) (by kernel_rfl) (by kernel_rfl) (by kernel_rfl) (by kernel_rfl) (by kernel_rfl) (fun _ _ _ h => h) (Or.inl ⟨by rfl, ?_⟩) hHeld (fun hHeld => ?_)
          · (intro w1 hSw; have hSw2 := hSw.2 rfl; have hSw := hSw.1; (try dsimp only at hSw hSw2); go_simp)
          simp only [List.getElem_toArray, List.getElem_cons_succ, List.getElem_cons_zero, Act.put, List.setIfInBounds_toArray, List.set_cons_zero, List.set_cons_succ]
          refine wpAnyS_take (i := 6) (v := .pointer (some ⟨w.heap.size, 0, none⟩)) _ rfl (by kernel_rfl) (by kernel_rfl) (by kernel_rfl) (by kernel_rfl) (by kernel_rfl) rfl (fun _ _ _ h => h) (Or.inl ⟨by rfl, ?_⟩) hHeld (fun hHeld => ?_)
          · (intro w1 hSw; have hSw := hSw.1; (try dsimp only at hSw); go_simp)
          simp only [List.getElem_toArray, List.getElem_cons_succ, List.getElem_cons_zero, Act.put, List.setIfInBounds_toArray, List.set_cons_zero, List.set_cons_succ]
          refine wpAnyS_take (i := 7) (v := .slice (some ⟨gb, goff, none⟩) R.len R.cap) true rfl (by kernel_rfl) (by kernel_rfl) (by kernel_rfl) (by kernel_rfl) (by kernel_rfl) (by kernel_rfl) (fun _ _ _ h => h) (Or.inl ⟨by rfl, ?_⟩) hHeld (fun hHeld => ?_)
          · (intro w1 hSw; have hSw2 := hSw.2 rfl; have hSw := hSw.1; (try dsimp only at hSw hSw2); go_simp)
          simp only [List.getElem_toArray, List.getElem_cons_succ, List.getElem_cons_zero, Act.put, List.setIfInBounds_toArray, List.set_cons_zero, List.set_cons_succ]
          refine wpAnyS_take (i := 8) (v := .pointer (some ⟨w5.heap.size, 2, none⟩)) _ rfl (by kernel_rfl) (by kernel_rfl) (by kernel_rfl) (by kernel_rfl) (by kernel_rfl) rfl (fun _ _ _ h => h) (Or.inl ⟨by rfl, ?_⟩) hHeld (fun hHeld => ?_)
          · (intro w1 hSw; have hSw := hSw.1; (try dsimp only at hSw); go_simp)
          simp only [List.getElem_toArray, List.getElem_cons_succ, List.getElem_cons_zero, Act.put, List.setIfInBounds_toArray, List.set_cons_zero, List.set_cons_succ]
          refine wpAnyS_take (i := 9) (v := .int .i64 (g : Int)) true rfl (by kernel_rfl) (by kernel_rfl) (by kernel_rfl) (by kernel_rfl) (by kernel_rfl) (by kernel_rfl) (fun _ _ _ h => h) (Or.inl ⟨by rfl, ?_⟩) hHeld (fun hHeld => ?_)
          · (intro w1 hSw; have hSw2 := hSw.2 rfl; have hSw := hSw.1; (try dsimp only at hSw hSw2); go_simp)
          simp only [List.getElem_toArray, List.getElem_cons_succ, List.getElem_cons_zero, Act.put, List.setIfInBounds_toArray, List.set_cons_zero, List.set_cons_succ]
          refine wpAnyS_take (i := 10) (v := .pointer (some ⟨gb, goff + g * 2, none⟩)) _ rfl (by kernel_rfl) (by kernel_rfl) (by kernel_rfl) (by kernel_rfl) (by kernel_rfl) rfl (fun _ _ _ h => h) (Or.inl ⟨by rfl, ?_⟩) hHeld (fun hHeld => ?_)
          · (intro w1 hSw; have hSw := hSw.1; (try dsimp only at hSw); go_simp)
          simp only [List.getElem_toArray, List.getElem_cons_succ, List.getElem_cons_zero, Act.put, List.setIfInBounds_toArray, List.set_cons_zero, List.set_cons_succ]
          refine wpAnyS_take (i := 11) (v := .pointer (some ⟨gb, goff + g * 2, none⟩)) _ rfl (by kernel_rfl) (by kernel_rfl) (by kernel_rfl) (by kernel_rfl) (by kernel_rfl) rfl (fun _ _ _ h => h) (Or.inl ⟨by rfl, ?_⟩) hHeld (fun hHeld => ?_)
          · (intro w1 hSw; have hSw := hSw.1; (try dsimp only at hSw); go_simp)
          simp only [List.getElem_toArray, List.getElem_cons_succ, List.getElem_cons_zero, Act.put, List.setIfInBounds_toArray, List.set_cons_zero, List.set_cons_succ]
          refine wpAnyS_take (i := 12) (v := .int .i64 (Z : Int)) true rfl (by kernel_rfl) (by kernel_rfl) (by kernel_rfl) (by kernel_rfl) (by kernel_rfl) (by kernel_rfl) (fun _ _ _ h => h) (Or.inl ⟨by rfl, ?_⟩) hHeld (fun hHeld => ?_)
          · (intro w1 hSw; have hSw2 := hSw.2 rfl; have hSw := hSw.1; (try dsimp only at hSw hSw2); go_simp)
          simp only [List.getElem_toArray, List.getElem_cons_succ, List.getElem_cons_zero, Act.put, List.setIfInBounds_toArray, List.set_cons_zero, List.set_cons_succ]
          refine wpAnyS_take (i := 13) (v := .pointer (some ⟨wr.heap.size, 1, none⟩)) _ rfl (by kernel_rfl) (by kernel_rfl) (by kernel_rfl) (by kernel_rfl) (by kernel_rfl) rfl (fun _ _ _ h => h) (Or.inl ⟨by rfl, ?_⟩) hHeld (fun hHeld => ?_)
          · (intro w1 hSw; have hSw := hSw.1; (try dsimp only at hSw); go_simp)
          simp only [List.getElem_toArray, List.getElem_cons_succ, List.getElem_cons_zero, Act.put, List.setIfInBounds_toArray, List.set_cons_zero, List.set_cons_succ]
          refine wpAnyS_take (i := 14) (v := .agg #[.int .u64 X.2.c, .bool X.2.o, .int .i64 (hi X.2.s), .int .u64 (lo X.2.s), .int .i64 X.2.mn, .int .i64 X.2.mx]) true rfl (by kernel_rfl) (by kernel_rfl) (by kernel_rfl) (by kernel_rfl) (by kernel_rfl) (by kernel_rfl) (fun _ _ _ h => h) (Or.inl ⟨by rfl, ?_⟩) hHeld (fun hHeld => ?_)
          · (intro w1 hSw; have hSw2 := hSw.2 rfl; have hSw := hSw.1; (try dsimp only at hSw hSw2); go_simp)
          simp only [List.getElem_toArray, List.getElem_cons_succ, List.getElem_cons_zero, Act.put, List.setIfInBounds_toArray, List.set_cons_zero, List.set_cons_succ]
          refine wpAnyS_take (i := 15) (v := .agg #[.slice va dn vc, .int .i64 f, .int .i64 (Z : Int), .int .u64 X.2.c, .bool X.2.o, .int .i64 (hi X.2.s), .int .u64 (lo X.2.s), .int .i64 X.2.mn, .int .i64 X.2.mx]) _ rfl (by kernel_rfl) (by kernel_rfl) (by kernel_rfl) (by kernel_rfl) (by kernel_rfl) rfl (fun _ _ _ h => h) (Or.inl ⟨by rfl, ?_⟩) hHeld (fun hHeld => ?_)
          · (intro w1 hSw; have hSw := hSw.1; (try dsimp only at hSw); go_simp)
          simp only [List.getElem_toArray, List.getElem_cons_succ, List.getElem_cons_zero, Act.put, List.setIfInBounds_toArray, List.set_cons_zero, List.set_cons_succ]
          refine wpAnyS_take (i := 16) (v := .pointer (some ⟨w2.heap.size, k * 9, none⟩)) _ rfl (by kernel_rfl) (by kernel_rfl) (by kernel_rfl) (by kernel_rfl) (by kernel_rfl) rfl (fun _ _ _ h => h) (Or.inl ⟨by rfl, ?_⟩) hHeld (fun hHeld => ?_)
          · (intro w1 hSw; have hSw := hSw.1; (try dsimp only at hSw); go_simp)
          simp only [List.getElem_toArray, List.getElem_cons_succ, List.getElem_cons_zero, Act.put, List.setIfInBounds_toArray, List.set_cons_zero, List.set_cons_succ]
          refine wpAnyS_ready (i := 17) (by kernel_rfl) rfl (fun K hK => ?_)
          rw [if_pos (by rfl)]
          refine wp_storeN _ _ _ rfl w2.heap.size (k * 9) (c9 ⟨.slice va dn vc, D, f, Z, X.2⟩) rfl rfl cur _ HCUR.out hfit (by kernel_rfl) (by kernel_rfl) (fun W hW => ?_)
          refine hK.out _ _ ⟨?_, fun hno => absurd hno (by decide)⟩ (fun hHeld => ?_)
          · trivial
          clear hK K
          refine wpAnyS_done (by kernel_rfl) ?_ _
          refine NoPanic.normal ?_
          have HN : Hid (AkI R G w2 (k + 1) (xs ++ [⟨.slice va dn vc, D, f, Z, X.2⟩]) W) := HST.out (HC6.out.below (Below.refl _ _).drew) HCUR.out hW (HSR6.out.below (Below.refl _ _).drew) HOW.out
          clear hW d1 d2 d3 d4 d5 d6 e0 e1 e2 r0 z0
          go_wp2_with fail
          go_roundw
          case rel => exact ⟨k + 1, _, by omega, by go_num, HN⟩
          case measure => simp [intOf]; omega
        · rw [hrd] at hrd'
          exact absurd hrd' (by simp)
      · obtain rfl : k = G.length := by omega
        have HEnd : Hid (F17 R wm L w (.returned (.tuple #[.slice (some ⟨w2.heap.size, 0, none⟩) G.length G.length, .int .i64 0])) wr) := by
          have h1 := HC.out.r
          have hxl := HC.out.l
          rw [Nat.sub_self, List.replicate_zero, List.append_nil] at h1
          refine ⟨HB2.out.trans (HC.out.b.mono HB2.out.size), .inr ⟨HZ.out, w2.heap.size, xs, by rw [hxl], ?_, ?_, HC.out.ok⟩⟩
          · rw [hxl]
            exact tReadsT h1 hxl (fun x hx => (HC.out.s x hx).1)
          · rw [HC.out.m, List.take_length, HG.out]; rfl
        go_wp2_with fail
        go_ret2
        exact HEnd.out
end Go.Proofs.YtoenijflijfogaaGreat

/- Layer 17: slices.Equal of texts, within, isRange, begins. -/
namespace Go.Proofs.YtoenijflijfogaaGreat
open Go.RowKit

set_option maxRecDepth 100000 in
set_option maxHeartbeats 4000000 in
theorem equalS_any (v u : Value) (D E : List ByteArray) (w : World) (hD : SReads w v D) (hE : SReads w u E) : Calls Tryz.prog 24 #[v, u] w fun e w' => e = .returned (.bool (decide (D = E))) ∧ Below w.heap.size w w' := by
  obtain ⟨a, ca, rfl, hla⟩ := hD.form
  obtain ⟨b, cb, rfl, hlb⟩ := hE.form
  unfold maxLen at hla hlb
  have HD : Hid (SReads w (.slice a D.length ca) D) := hD
  have HE : Hid (SReads w (.slice b E.length cb) E) := hE
  clear hD hE
  by_cases hn : D.length = E.length
  · have HN : Hid (D.length = E.length) := hn
    rw [← hn] at HE ⊢
    clear hn
    go_enter Tryz.func24, Tryz.ntmps24
    go_wp2_with fail
    go_loopw [13] (fun i wr => ∃ k : Nat, i = .int .i64 (k : Int) ∧ k ≤ D.length ∧ Hid (D.take k = E.take k) ∧ Hid (Below w.heap.size w wr)) (fun i _ => D.length - (intOf i).toNat)
    case atStart => exact ⟨0, rfl, by omega, rfl, Below.refl _ _⟩
    case round =>
      obtain ⟨k, rfl, hk, HT, HB⟩ := hrel
      by_cases hlt : k < D.length
      · have hltE : k < E.length := by rw [← HN.out]; exact hlt
        obtain ⟨ba, oa, rfl, hba, xa⟩ := HD.out.at k hlt
        obtain ⟨bb, ob, rfl, hbb, xb⟩ := HE.out.at k hltE
        have HC : Hid (∀ w', Below w.heap.size w w' → w'.cell? ⟨ba, oa + k, none⟩ = some (.string D[k]) ∧ w'.cell? ⟨bb, ob + k, none⟩ = some (.string E[k])) := fun w' hb => ⟨(hb.cell (p := ⟨ba, oa + k, none⟩) hba).trans xa, (hb.cell (p := ⟨bb, ob + k, none⟩) hbb).trans xb⟩
        have HTK : Hid (D.take (k + 1) = D.take k ++ [D[k]] ∧ E.take (k + 1) = E.take k ++ [E[k]]) := ⟨by rw [List.take_add_one, List.getElem?_eq_getElem hlt]; rfl, by rw [List.take_add_one, List.getElem?_eq_getElem hltE]; rfl⟩
        have HNE : Hid (D[k] ≠ E[k] → decide (D = E) = false) := fun hne => decide_eq_false fun he => hne (by subst he; rfl)
        obtain ⟨s, Hs⟩ := hid_ex D[k]
        obtain ⟨t, Ht⟩ := hid_ex E[k]
        rw [← Hs.out, ← Ht.out] at HC HTK HNE
        have hlt' : (k : Int) < (D.length : Int) := by omega
        clear xa xb hltE Hs Ht
        by_cases hst : s = t
        · subst hst
          go_wp2_with fail
          refine wp_region_noPanic ?_
          refine wp_region_held_drew (S := (fun w' => Below w.heap.size w w')) (by kernel_rfl) ?_ (fun hHeld => ?_)
          · exact HB.out.drew
          refine wpAnyH_take (i := 0) (v := .slice (some ⟨ba, oa, none⟩) D.length ca) rfl (by kernel_rfl) (by kernel_rfl) (by kernel_rfl) (fun _ _ _ h => h) (Or.inl ⟨by rfl, ?_⟩) (by assumption) ?_
          · (intro w1 hSw; (try dsimp only at hSw); go_simp)
          simp only [List.getElem_toArray, List.getElem_cons_zero, Act.put, List.setIfInBounds_toArray, List.set_cons_zero, List.set_cons_succ]
          refine wpAnyH_take (i := 1) (v := .int .i64 (k : Int)) rfl (by kernel_rfl) (by kernel_rfl) (by kernel_rfl) (fun _ _ _ h => h) (Or.inl ⟨by rfl, ?_⟩) (by assumption) ?_
          · (intro w1 hSw; (try dsimp only at hSw); go_simp)
          simp only [List.getElem_toArray, List.getElem_cons_succ, List.getElem_cons_zero, Act.put, List.setIfInBounds_toArray, List.set_cons_zero, List.set_cons_succ]
          refine wpAnyH_take (i := 2) (v := .pointer (some ⟨ba, oa + k, none⟩)) rfl (by kernel_rfl) (by kernel_rfl) (by kernel_rfl) (fun _ _ _ h => h) (Or.inl ⟨by rfl, ?_⟩) (by assumption) ?_
          · (intro w1 hSw; (try dsimp only at hSw); go_simp)
          simp only [List.getElem_toArray, List.getElem_cons_succ, List.getElem_cons_zero, Act.put, List.setIfInBounds_toArray, List.set_cons_zero, List.set_cons_succ]
          refine wpAnyH_take (i := 3) (v := .string s) rfl (by kernel_rfl) (by kernel_rfl) (by kernel_rfl) (fun _ _ _ h => h) (Or.inl ⟨by rfl, ?_⟩) (by assumption) ?_
          · (intro w1 hSw; (try dsimp only at hSw); obtain ⟨h0, h1⟩ := HC.out _ hSw; go_simp)
          simp only [List.getElem_toArray, List.getElem_cons_succ, List.getElem_cons_zero, Act.put, List.setIfInBounds_toArray, List.set_cons_zero, List.set_cons_succ]
          refine wpAnyH_take (i := 4) (v := .slice (some ⟨bb, ob, none⟩) D.length cb) rfl (by kernel_rfl) (by kernel_rfl) (by kernel_rfl) (fun _ _ _ h => h) (Or.inl ⟨by rfl, ?_⟩) (by assumption) ?_
          · (intro w1 hSw; (try dsimp only at hSw); go_simp)
          simp only [List.getElem_toArray, List.getElem_cons_succ, List.getElem_cons_zero, Act.put, List.setIfInBounds_toArray, List.set_cons_zero, List.set_cons_succ]
          refine wpAnyH_take (i := 5) (v := .int .i64 (k : Int)) rfl (by kernel_rfl) (by kernel_rfl) (by kernel_rfl) (fun _ _ _ h => h) (Or.inl ⟨by rfl, ?_⟩) (by assumption) ?_
          · (intro w1 hSw; (try dsimp only at hSw); go_simp)
          simp only [List.getElem_toArray, List.getElem_cons_succ, List.getElem_cons_zero, Act.put, List.setIfInBounds_toArray, List.set_cons_zero, List.set_cons_succ]
          refine wpAnyH_take (i := 6) (v := .pointer (some ⟨bb, ob + k, none⟩)) rfl (by kernel_rfl) (by kernel_rfl) (by kernel_rfl) (fun _ _ _ h => h) (Or.inl ⟨by rfl, ?_⟩) (by assumption) ?_
          · (intro w1 hSw; (try dsimp only at hSw); go_simp)
          simp only [List.getElem_toArray, List.getElem_cons_succ, List.getElem_cons_zero, Act.put, List.setIfInBounds_toArray, List.set_cons_zero, List.set_cons_succ]
          refine wpAnyH_take (i := 7) (v := .string s) rfl (by kernel_rfl) (by kernel_rfl) (by kernel_rfl) (fun _ _ _ h => h) (Or.inl ⟨by rfl, ?_⟩) (by assumption) ?_
          · (intro w1 hSw; (try dsimp only at hSw); obtain ⟨h0, h1⟩ := HC.out _ hSw; go_simp)
          simp only [List.getElem_toArray, List.getElem_cons_succ, List.getElem_cons_zero, Act.put, List.setIfInBounds_toArray, List.set_cons_zero, List.set_cons_succ]
          refine wpAnyH_take (i := 8) (v := .bool false) rfl (by kernel_rfl) (by kernel_rfl) (by kernel_rfl) (fun _ _ _ h => h) (Or.inl ⟨by rfl, ?_⟩) (by assumption) ?_
          · (intro w1 hSw; (try dsimp only at hSw); go_simp)
          simp only [List.getElem_toArray, List.getElem_cons_succ, List.getElem_cons_zero, Act.put, List.setIfInBounds_toArray, List.set_cons_zero, List.set_cons_succ]
          refine wpAnyH_done (by kernel_rfl) ?_ _
          refine NoPanic.normal ?_
          have HBd : Hid (Below w.heap.size w wr.drew) := HB.out.drew
          have HTn : Hid (D.take (k + 1) = E.take (k + 1)) := by show _ = _; rw [HTK.out.1, HTK.out.2, HT.out]
          clear hHeld
          go_wp2_with fail
          go_roundw
          case rel => exact ⟨k + 1, by go_num, by omega, HTn, HBd⟩
          case measure => simp [intOf]; omega
        · have hst' : ¬ s.toList = t.toList := fun h => hst (by rw [ByteArray.toList_eq, ByteArray.toList_eq] at h; exact ByteArray.ext (Array.toList_inj.1 h))
          go_wp2_with fail
          refine wp_region_noPanic ?_
          refine wp_region_held_drew (S := (fun w' => Below w.heap.size w w')) (by kernel_rfl) ?_ (fun hHeld => ?_)
          · exact HB.out.drew
          refine wpAnyH_take (i := 0) (v := .slice (some ⟨ba, oa, none⟩) D.length ca) rfl (by kernel_rfl) (by kernel_rfl) (by kernel_rfl) (fun _ _ _ h => h) (Or.inl ⟨by rfl, ?_⟩) (by assumption) ?_
          · (intro w1 hSw; (try dsimp only at hSw); go_simp)
          simp only [List.getElem_toArray, List.getElem_cons_zero, Act.put, List.setIfInBounds_toArray, List.set_cons_zero, List.set_cons_succ]
          refine wpAnyH_take (i := 1) (v := .int .i64 (k : Int)) rfl (by kernel_rfl) (by kernel_rfl) (by kernel_rfl) (fun _ _ _ h => h) (Or.inl ⟨by rfl, ?_⟩) (by assumption) ?_
          · (intro w1 hSw; (try dsimp only at hSw); go_simp)
          simp only [List.getElem_toArray, List.getElem_cons_succ, List.getElem_cons_zero, Act.put, List.setIfInBounds_toArray, List.set_cons_zero, List.set_cons_succ]
          refine wpAnyH_take (i := 2) (v := .pointer (some ⟨ba, oa + k, none⟩)) rfl (by kernel_rfl) (by kernel_rfl) (by kernel_rfl) (fun _ _ _ h => h) (Or.inl ⟨by rfl, ?_⟩) (by assumption) ?_
          · (intro w1 hSw; (try dsimp only at hSw); go_simp)
          simp only [List.getElem_toArray, List.getElem_cons_succ, List.getElem_cons_zero, Act.put, List.setIfInBounds_toArray, List.set_cons_zero, List.set_cons_succ]
          refine wpAnyH_take (i := 3) (v := .string s) rfl (by kernel_rfl) (by kernel_rfl) (by kernel_rfl) (fun _ _ _ h => h) (Or.inl ⟨by rfl, ?_⟩) (by assumption) ?_
          · (intro w1 hSw; (try dsimp only at hSw); obtain ⟨h0, h1⟩ := HC.out _ hSw; go_simp)
          simp only [List.getElem_toArray, List.getElem_cons_succ, List.getElem_cons_zero, Act.put, List.setIfInBounds_toArray, List.set_cons_zero, List.set_cons_succ]
          refine wpAnyH_take (i := 4) (v := .slice (some ⟨bb, ob, none⟩) D.length cb) rfl (by kernel_rfl) (by kernel_rfl) (by kernel_rfl) (fun _ _ _ h => h) (Or.inl ⟨by rfl, ?_⟩) (by assumption) ?_
          · (intro w1 hSw; (try dsimp only at hSw); go_simp)
          simp only [List.getElem_toArray, List.getElem_cons_succ, List.getElem_cons_zero, Act.put, List.setIfInBounds_toArray, List.set_cons_zero, List.set_cons_succ]
          refine wpAnyH_take (i := 5) (v := .int .i64 (k : Int)) rfl (by kernel_rfl) (by kernel_rfl) (by kernel_rfl) (fun _ _ _ h => h) (Or.inl ⟨by rfl, ?_⟩) (by assumption) ?_
          · (intro w1 hSw; (try dsimp only at hSw); go_simp)
          simp only [List.getElem_toArray, List.getElem_cons_succ, List.getElem_cons_zero, Act.put, List.setIfInBounds_toArray, List.set_cons_zero, List.set_cons_succ]
          refine wpAnyH_take (i := 6) (v := .pointer (some ⟨bb, ob + k, none⟩)) rfl (by kernel_rfl) (by kernel_rfl) (by kernel_rfl) (fun _ _ _ h => h) (Or.inl ⟨by rfl, ?_⟩) (by assumption) ?_
          · (intro w1 hSw; (try dsimp only at hSw); go_simp)
          simp only [List.getElem_toArray, List.getElem_cons_succ, List.getElem_cons_zero, Act.put, List.setIfInBounds_toArray, List.set_cons_zero, List.set_cons_succ]
          refine wpAnyH_take (i := 7) (v := .string t) rfl (by kernel_rfl) (by kernel_rfl) (by kernel_rfl) (fun _ _ _ h => h) (Or.inl ⟨by rfl, ?_⟩) (by assumption) ?_
          · (intro w1 hSw; (try dsimp only at hSw); obtain ⟨h0, h1⟩ := HC.out _ hSw; go_simp)
          simp only [List.getElem_toArray, List.getElem_cons_succ, List.getElem_cons_zero, Act.put, List.setIfInBounds_toArray, List.set_cons_zero, List.set_cons_succ]
          refine wpAnyH_take (i := 8) (v := .bool true) rfl (by kernel_rfl) (by kernel_rfl) (by kernel_rfl) (fun _ _ _ h => h) (Or.inl ⟨by rfl, ?_⟩) (by assumption) ?_
          · (intro w1 hSw; (try dsimp only at hSw); go_simp)
          simp only [List.getElem_toArray, List.getElem_cons_succ, List.getElem_cons_zero, Act.put, List.setIfInBounds_toArray, List.set_cons_zero, List.set_cons_succ]
          refine wpAnyH_done (by kernel_rfl) ?_ _
          refine NoPanic.normal ?_
          have HBd : Hid (Below w.heap.size w wr.drew) := HB.out.drew
          clear hHeld
          go_wp2_with fail
          go_ret
          rw [HNE.out hst]
          exact ⟨rfl, HBd.out⟩
      · have hke : k = D.length := by omega
        have hde : decide (D = E) = true := decide_eq_true (by
          have h := HT.out
          rw [List.take_of_length_le (by omega), List.take_of_length_le (by rw [← HN.out]; omega)] at h
          exact h)
        have HDE : Hid (decide (D = E) = true) := hde
        clear hde
        have hlt' : ¬ (k : Int) < (D.length : Int) := by omega
        go_wp2_with fail
        go_ret
        rw [HDE.out]
        exact ⟨rfl, HB.out⟩
  · have hde : decide (D = E) = false := decide_eq_false fun he => hn (by rw [he])
    rw [hde]
    have hn' : ¬ (D.length : Int) = (E.length : Int) := by omega
    have hn2 : ((D.length : Int) == (E.length : Int)) = false := beq_false_of_ne hn'
    clear HD HE hde
    go_enter Tryz.func24, Tryz.ntmps24
    go_wp2_with fail
    go_ret
    exact ⟨rfl, Below.refl _ _⟩
set_option maxRecDepth 100000 in
set_option maxHeartbeats 2000000 in
theorem isRange_any (f t : Int) (w : World) : Calls Tryz.prog 31 #[.int .i64 f, .int .i64 t] w fun e w' => e = .returned (.bool (decide (0 ≤ f ∧ f ≤ t ∧ t ≤ 1099511627776))) ∧ w' = w := by
  by_cases h1 : 0 ≤ f
  · by_cases h2 : f ≤ t
    · by_cases h3 : t ≤ 1099511627776
      · rw [decide_eq_true ⟨h1, h2, h3⟩]
        go_enter Tryz.func31, Tryz.ntmps31
        go_wp2_with fail
        go_ret
        exact ⟨rfl, rfl⟩
      · rw [decide_eq_false (fun h => h3 h.2.2)]
        go_enter Tryz.func31, Tryz.ntmps31
        go_wp2_with fail
        go_ret
        exact ⟨rfl, rfl⟩
    · rw [decide_eq_false (fun h => h2 h.2.1)]
      go_enter Tryz.func31, Tryz.ntmps31
      go_wp2_with fail
      go_ret
      exact ⟨rfl, rfl⟩
  · rw [decide_eq_false (fun h => h1 h.1)]
    go_enter Tryz.func31, Tryz.ntmps31
    go_wp2_with fail
    go_ret
    exact ⟨rfl, rfl⟩
set_option maxRecDepth 100000 in
set_option maxHeartbeats 2000000 in
theorem within_any (x : It) (f t : Int) (w : World) : Calls Tryz.prog 33 #[itV x, .int .i64 f, .int .i64 t] w fun e w' => e = .returned (.bool (decide (f ≤ x.f ∧ x.f < t))) ∧ Below w.heap.size w w' := by
  obtain ⟨v, D, y, g, ag⟩ := x
  unfold itV
  simp only
  have HB : Hid (Below w.heap.size w (w.alloc (.cells #[v, .int .i64 y, .int .i64 (g : Int), .int .u64 ag.c, .bool ag.o, .int .i64 (hi ag.s), .int .u64 (lo ag.s), .int .i64 ag.mn, .int .i64 ag.mx] 38))) := (Below.refl _ _).alloc (Nat.le_refl _) _
  by_cases h1 : f ≤ y
  · by_cases h2 : y < t
    · rw [decide_eq_true ⟨h1, h2⟩]
      go_enter Tryz.func33, Tryz.ntmps33
      go_wp2_with fail
      go_ret
      exact ⟨rfl, HB.out⟩
    · rw [decide_eq_false (fun h => h2 h.2)]
      go_enter Tryz.func33, Tryz.ntmps33
      go_wp2_with fail
      go_ret
      exact ⟨rfl, HB.out⟩
  · rw [decide_eq_false (fun h => h1 h.1)]
    go_enter Tryz.func33, Tryz.ntmps33
    go_wp2_with fail
    go_ret
    exact ⟨rfl, HB.out⟩
end Go.Proofs.YtoenijflijfogaaGreat

/- Layer 17: begins; what Scan and Get are, plainly. -/
namespace Go.Proofs.YtoenijflijfogaaGreat
open Go.RowKit

theorem sizeT17 (w : World) : (sizeOf 9).run Tryz.prog w = .ok 1 w := by
  simp [sizeOf]
  rfl
theorem elemT17 : Tryz.prog.elem 26 = 9 := by kernel_rfl
theorem undT17 : Tryz.prog.underlying 26 = some (.slice (Tryz.prog.elem 26)) := by rw [elemT17]; exact Tryz.underlying26
theorem SReads.upto {w : World} {a : Option Addr} {cap : Nat} {L : List ByteArray} (h : SReads w (.slice a L.length cap) L) {d : Nat} (hd : d ≤ L.length) : SReads w (sliced a 0 d cap 1) (L.take d) := by
  unfold Go.sliced
  rcases Nat.eq_zero_or_pos d with h0 | h0
  · subst h0
    refine .inl ⟨rfl, _, _, rfl, fun hn => ?_⟩
    split at hn
    · omega
    · rcases h with ⟨rfl, a', cap', hv, hz⟩ | ⟨b, off, cap', hv, _⟩
      · simp at hv
        obtain ⟨rfl, rfl⟩ := hv
        cases a with
        | none => rw [hz rfl]
        | some x => simp at hn
      · simp at hv
        obtain ⟨rfl, _⟩ := hv
        simp at hn
  · rcases h with ⟨rfl, _⟩ | ⟨b, off, cap', hv, h2, h3, h4, h5, h6, h7⟩
    · simp at hd; omega
    · simp at hv
      obtain ⟨rfl, rfl⟩ := hv
      rw [if_neg (by omega)]
      have ea : Option.map (fun x : Addr => x.add (0 * 1)) (some (⟨b, off, none⟩ : Addr)) = some ⟨b, off, none⟩ := by simp [Addr.add]
      rw [ea]
      have hl : (L.take d).length = d := by simp; omega
      refine .inr ⟨b, off, cap - 0, by rw [hl]; rfl, by omega, by omega, by omega, h5, fun j hj => ?_, fun s hs => h7 s (List.mem_of_mem_take hs)⟩
      rw [h6 j (by omega)]; simp
theorem ssl_upto {w : World} {a : Option Addr} {cap : Nat} {L : List ByteArray} (h : SReads w (.slice a L.length cap) L) {d : Nat} (hd : d ≤ L.length) :
    ∃ a' cap', (∀ w', (Instr.slice 26 (.slice a L.length cap) none (some (.int .i64 (d : Int))) none).run Tryz.prog w' = .ok (.slice a' d cap') w') ∧ SReads w (.slice a' d cap') (L.take d) := by
  have hcap : d ≤ cap := by
    rcases h with ⟨rfl, _⟩ | ⟨b, off, cap', hv, h2, h3, h4, h5, h6, h7⟩
    · simp at hd; omega
    · simp at hv; omega
  refine ⟨(if cap = 0 then a else a.map (·.add (0 * 1))), cap - 0, fun w' => ?_, ?_⟩
  rotate_left
  · exact h.upto hd
  · rw [run_slice_h _ _ _ _ _ undT17 _ _ (by omega) (by omega), elemT17, sizeT17]
    rfl
set_option maxRecDepth 100000 in
set_option maxHeartbeats 600000 in
theorem begins17_aux (a b a' : Option Addr) (n m ca cb cap' : Nat) (B : Bool) (w : World) (hnm : (m : Int) ≤ (n : Int)) (_ : (n : Int) ≤ 9223372036854775807) (hsl : ∀ w', (Instr.slice 26 (.slice a n ca) none (some (.int .i64 (m : Int))) none).run Tryz.prog w' = .ok (.slice a' m cap') w') (hq : Calls Tryz.prog 24 #[.slice a' m cap', .slice b m cb] w fun e w' => e = .returned (.bool B) ∧ Below w.heap.size w w') : Calls Tryz.prog 32 #[.slice a n ca, .slice b m cb] w fun e w' => e = .returned (.bool B) ∧ Below w.heap.size w w' := by
  have HEQ : Hid (Calls Tryz.prog 24 #[.slice a' m cap', .slice b m cb] w fun e w' => e = .returned (.bool B) ∧ Below w.heap.size w w') := hq
  clear hq
  go_enter Tryz.func32, Tryz.ntmps32
  go_wp2_with fail
  refine HEQ.out.mono ?_
  rintro e w1 ⟨rfl, hb1⟩
  have HB1 : Hid (Below w.heap.size w w1) := hb1
  clear hb1
  go_wp2_with fail
  go_ret
  exact ⟨rfl, HB1.out⟩
set_option maxRecDepth 100000 in
set_option maxHeartbeats 600000 in
theorem begins17_no (a b : Option Addr) (n m ca cb : Nat) (w : World) (hnm : ¬ (m : Int) ≤ (n : Int)) (_ : (m : Int) ≤ 9223372036854775807) : Calls Tryz.prog 32 #[.slice a n ca, .slice b m cb] w fun e w' => e = .returned (.bool false) ∧ Below w.heap.size w w' := by
  go_enter Tryz.func32, Tryz.ntmps32
  go_wp2_with fail
  go_ret
  exact ⟨rfl, Below.refl _ _⟩
theorem begins17_any (v u : Value) (D F : List ByteArray) (w : World) (hD : SReads w v D) (hF : SReads w u F) : Calls Tryz.prog 32 #[v, u] w fun e w' => e = .returned (.bool (decide (D.take F.length = F))) ∧ Below w.heap.size w w' := by
  obtain ⟨a, ca, rfl, hla⟩ := hD.form
  obtain ⟨b, cb, rfl, hlb⟩ := hF.form
  unfold maxLen at hla hlb
  by_cases hn : F.length ≤ D.length
  · obtain ⟨a', cap', hsl, hSR⟩ := ssl_upto hD hn
    have hl : (D.take F.length).length = F.length := by simp; omega
    have hq := equalS_any _ _ (D.take F.length) F w hSR hF
    exact begins17_aux a b a' D.length F.length ca cb cap' _ w (by omega) (by omega) hsl hq
  · rw [decide_eq_false (fun h => hn (by have := congrArg List.length h; rw [List.length_take] at this; omega))]
    exact begins17_no a b D.length F.length ca cb w (by omega) (by omega)
/-- What Scan tells, plainly. -/
def scanF (D : List ByteArray) (f t : Int) (rs : List Rw) : List Rw := rs.filter fun x => decide (x.D.take D.length = D) && decide (f ≤ x.f ∧ x.f < t)
/-- One round of Get. -/
def getS (D : List ByteArray) (t : Int) (r x : Rw) : Rw := if x.D = D ∧ x.f ≤ t ∧ t < x.f + x.z then { (if r.z < x.z then x else r) with a := mrg r.a x.a } else r
/-- What Get tells, plainly. -/
def getF (D : List ByteArray) (t : Int) (rs : List Rw) : Rw := rs.foldl (getS D t) rwZ
end Go.Proofs.YtoenijflijfogaaGreat
