/- AQ1 AQ2 AQ3 AQ4 AQS, joined. -/
import Derived.Test.YtoenijflijfogaaRF5
import Derived.Test.YtoenijflijfogaaRF8
import Derived.Test.YtoenijflijfogaaRF22
import Derived.Test.YtoenijflijfogaaRF24
import Derived.Shelf.SlGeneric
import Derived.Shelf.SortM.Plain
import Derived.Shelf.SortM.SortNone
import Derived.Sort.OwnSorted
/- The contract of ask's folded. -/
namespace Go.Proofs.Ytoenijflijfogaa
open Go.RowKit

theorem eReads_cn {w : World} {v : Value} {L : List En} (h : EReads w v L) : ∀ x ∈ L, CnOk x.2 := by
  intro x hx
  obtain ⟨j, hj, rfl⟩ := List.getElem_of_mem hx
  obtain ⟨a, cap, rfl, hm1, hm2⟩ := h.form
  obtain ⟨b, off, cap', hv, hbw⟩ := eReads_some h (by omega)
  simp at hv
  obtain ⟨rfl, rfl⟩ := hv
  obtain ⟨kv, hcw, hRw, hA⟩ := eReads_at h hj rfl
  exact hA
/-- What folded tells. -/
def F17 (R : Rl) (wm : Int) (L : List En) (w : World) (e : Ending) (w' : World) : Prop :=
  Below w.heap.size w w' ∧ ((chkF R wm L ≠ 0 ∧ e = .returned (.tuple #[.slice none 0 0, .int .i64 (chkF R wm L)])) ∨ (chkF R wm L = 0 ∧ ∃ g xs, e = .returned (.tuple #[.slice (some ⟨g, 0, none⟩) xs.length xs.length, .int .i64 0]) ∧ TReads w' (.slice (some ⟨g, 0, none⟩) xs.length xs.length) xs ∧ xs.map itR = rowsE R wm L ∧ ∀ x ∈ xs, RwOk x))
/-- What its loop keeps. -/
structure AkI (R : Rl) (G : List En) (V : World) (k : Nat) (xs : List It) (wr : World) : Prop where
  l : xs.length = k
  m : xs.map itR = (G.take k).map (rowE R)
  r : wr.ownsRow V.heap.size 43 9 (.slice (some ⟨V.heap.size, 0, none⟩) G.length G.length) G.length ((xs ++ List.replicate (G.length - k) itZ).flatMap c9)
  s : ∀ x ∈ xs, SReads wr x.v x.D ∧ ∀ b, x.v.ownBlock = some b → V.heap.size < b
  ok : ∀ x ∈ xs, RwOk x
  b : Below V.heap.size V wr
theorem AkI.below {R : Rl} {G : List En} {V : World} {k : Nat} {xs : List It} {wr W : World} (h : AkI R G V k xs wr) (hb : Below wr.heap.size wr W) : AkI R G V k xs W :=
  ⟨h.l, h.m, row_below h.r hb, fun x hx => ⟨(h.s x hx).1.below hb, (h.s x hx).2⟩, h.ok, h.b.trans (hb.mono h.b.size)⟩
theorem sreads_stT {w W : World} {v : Value} {D : List ByteArray} {g off : Nat} {cur : Array Value} {T : TypeId} {vs : List Value} (h : SReads w v D) (hW : StW w W g off cur T vs) (hne : ∀ b, v.ownBlock = some b → b ≠ g) : SReads W v D := by
  have hs := (hW.b 0 (Nat.zero_le _)).size
  rcases h with h | ⟨b, off, cap, h1, h2, h3, h4, h5, h6, h7⟩
  · exact .inl h
  · refine .inr ⟨b, off, cap, h1, h2, h3, h4, Nat.lt_of_lt_of_le h5 hs, fun j hj => ?_, h7⟩
    have hk := hW.o b (hne b (by rw [h1]; rfl))
    rw [← h6 j hj]
    exact World.cell?_of_block hk
theorem AkI.store {R : Rl} {G : List En} {V : World} {k : Nat} {xs : List It} {w W : World} {cur : Array Value} {y : It} (h : AkI R G V k xs w) (hk : k < G.length) (hcur : w.heap[V.heap.size]? = some (.cells cur 43)) (hW : StW w W V.heap.size (k * 9) cur 43 (c9 y)) (hy : itR y = rowE R G[k]) (hok : RwOk y) (hs : SReads w y.v y.D) (hb : ∀ b, y.v.ownBlock = some b → V.heap.size < b) : AkI R G V (k + 1) (xs ++ [y]) W := by
  have hrW := row_setT (y := y) h.r hcur hW (by simp [h.l]; omega)
  have e1 : (xs ++ List.replicate (G.length - k) itZ).set k y = (xs ++ [y]) ++ List.replicate (G.length - (k + 1)) itZ := by
    rw [List.set_append_right _ _ (by rw [h.l]; omega), h.l, Nat.sub_self, show G.length - k = (G.length - (k + 1)) + 1 by omega, List.replicate_succ, List.set_cons_zero, List.append_assoc]
    rfl
  rw [e1] at hrW
  refine ⟨by simp [h.l], ?_, hrW, fun x hx => ?_, fun x hx => ?_, h.b.trans (hW.b _ (Nat.le_refl _))⟩
  · rw [List.map_append, h.m, List.take_add_one, List.getElem?_eq_getElem hk, List.map_append, ← hy_map hy]
  · rcases List.mem_append.1 hx with hx | hx
    · exact ⟨sreads_stT (h.s x hx).1 hW (fun b hb' => by have := (h.s x hx).2 b hb'; omega), (h.s x hx).2⟩
    · obtain rfl : x = y := by simpa using hx
      exact ⟨sreads_stT hs hW (fun b hb' => by have := hb b hb'; omega), hb⟩
  · rcases List.mem_append.1 hx with hx | hx
    · exact h.ok x hx
    · obtain rfl : x = y := by simpa using hx
      exact hok
where
  hy_map {R : Rl} {y : It} {x : En} (h : itR y = rowE R x) : [y].map itR = ((some x).toList).map (rowE R) := by simp [h]
set_option maxRecDepth 100000 in
set_option maxHeartbeats 8000000 in
theorem folded17_any (R : Rl) (wm : Int) (v : Value) (L : List En) (w : World) (hL : Lies R w.heap.size w) (hE : EReads w v L) (hl : L.length ≤ 100000) (hk : ∀ x ∈ L, x.1.length ≤ 1000) :
    Calls Try.prog 16 #[.agg #[.slice R.a R.len R.cap, .int .i64 R.kp], .int .i64 wm, v] w (F17 R wm L w) := by
  have HE : Hid (EReads w v L) := hE
  have HL : Hid (Lies R w.heap.size w) := hL
  have HK : Hid _ := hk
  obtain ⟨a, cap, rfl, hm1, hm2⟩ := hE.form
  clear hE hL hk
  obtain ⟨w1, HW1⟩ := hid_ex (w.alloc (.cells #[.slice R.a R.len R.cap, .int .i64 R.kp] 24))
  have hb1 : Below w.heap.size w w1 := by rw [HW1.out]; exact new_below _ _
  have HX1 : Hid (RBox R w.heap.size w1) := by rw [HW1.out]; exact RBox.new R w _
  have HL1 : Hid (Lies R w1.heap.size w1) := HL.out.at hb1
  have HE1 : Hid (EReads w1 (.slice a L.length cap) L) := HE.out.below hb1
  have HB1 : Hid _ := hb1
  obtain ⟨_, c0, c1⟩ := HX1.out
  clear hb1
  go_enter Try.func16, Try.ntmps16
  go_wp2_with fail
  rw [← HW1.out]
  clear HW1
  refine (fold_any R wm _ L _ HL1.out HE1.out hl HK.out).mono ?_
  rintro e w2 ⟨hb2, ⟨hne, rfl⟩ | ⟨hz, v2, rfl, hr2⟩⟩
  · have hb0 : (chkF R wm L == 0) = false := by simp [hne]
    have hb0' : (chkF R wm L != 0) = true := by simp [hne]
    have HEnd : Hid (F17 R wm L w (.returned (.tuple #[.slice none 0 0, .int .i64 (chkF R wm L)])) w2) := ⟨HB1.out.trans (hb2.mono HB1.out.size), .inl ⟨hne, rfl⟩⟩
    clear hne hb2
    generalize chkF R wm L = rr at *
    go_wp2_with fail
    go_ret2
    exact HEnd.out
  · obtain ⟨_, hR, _, _, _⟩ := chkF_ok hz
    have HR : Hid (RightP R) := hR
    have HZ : Hid (chkF R wm L = 0) := hz
    have HFT : Hid (∀ x ∈ foldF R wm L, (FitE R x ∧ Gd x.2) ∧ x.1.length ≤ 1000) := folded_fit hz (eReads_cn HE.out)
    have hgl : (foldF R wm L).length ≤ 100000 := Nat.le_trans (foldF_len R wm L) hl
    obtain ⟨G, HG⟩ := hid_ex (foldF R wm L)
    rw [← HG.out] at hr2 HFT hgl
    have HB2 : Hid (Below w.heap.size w w2) := HB1.out.trans (hb2.mono HB1.out.size)
    have HX2 : Hid (RBox R w.heap.size w2) := HX1.out.below hb2
    have HL2 : Hid (Lies R w2.heap.size w2) := HL.out.at HB2.out
    have HE2 : Hid (EReads w2 v2 G) := hr2
    obtain ⟨ga, gc, rfl, hm3, hm4⟩ := hr2.form
    unfold maxLen at hm4
    obtain ⟨i0, hi, hz0, hz1, hz2⟩ := info_parts infoRw
    obtain ⟨w3, hr3, hown3, hg3⟩ := run_make_full (P := Try.prog) w2 w2.heap.size 31 43 i0 _ 9 Try.underlying31 hi hz0 hz1 .i64 .i64 G.length (by rw [hz2]; omega) (by unfold maxLen; omega) (Nat.le_refl _)
    rw [made9] at hown3
    have HI0 : Hid (AkI R G w2 0 [] w3) := ⟨rfl, rfl, by simpa using hown3, fun x hx => (by cases hx), fun x hx => (by cases hx), (Below.refl _ _).grown hg3 (Nat.le_refl _) (fun k e => by cases e)⟩
    clear hown3 hg3 hi hz0 hz1 hz2 hz hb2 hR HB1 HX1 HL1 HE1 hr2 c0 c1 HE HK
    go_wp2_with fail
    go_loopw [30] (fun i wr => ∃ (k : Nat) (xs : List It), k ≤ G.length ∧ i = .int .i64 (k : Int) ∧ Hid (AkI R G w2 k xs wr)) (fun i _ => G.length - (intOf i).toNat)
    case atStart => exact ⟨0, [], by omega, rfl, HI0⟩
    case round =>
      clear HI0 hr3
      obtain ⟨k, xs, hk, rfl, HC⟩ := hrel
      by_cases hlt : k < G.length
      · obtain ⟨b, off, cap', hv, hbw⟩ := eReads_some HE2.out (by omega)
        simp at hv
        obtain ⟨rfl, rfl⟩ := hv
        obtain ⟨kv, hcw, hRw, hA⟩ := eReads_at HE2.out hlt rfl
        have hc : ∀ i (hi : i < 7), wr.cell? ⟨b, off + k * 7 + i, none⟩ = some ((c7 ⟨kv, G[k].1, G[k].2⟩)[i]'hi) := fun i hi => (HC.out.b.cell (p := ⟨b, off + k * 7 + i, none⟩) hbw).trans (hcw i hi)
        have hR := hRw.below HC.out.b
        obtain ⟨⟨hft, hgd⟩, hkl⟩ := HFT.out G[k] (List.getElem_mem hlt)
        obtain ⟨D, f, g, hrd, hgl2, hmay, hf0, hf1, hs0, hs1, hg3⟩ := fit_row HR.out hft
        obtain ⟨Z, hZ⟩ : ∃ Z : Nat, R.sz g = (Z : Int) := ⟨(R.sz g).toNat, by omega⟩
        have hrow : ∀ v, itR ⟨v, D, f, Z, G[k].2⟩ = rowE R G[k] := fun v => by rw [rowE_of hrd]; simp [itR, hZ]
        have HOK : Hid (∀ v, RwOk ⟨v, D, f, Z, G[k].2⟩) := fun v => ⟨hmay, ⟨hf0, hf1⟩, ⟨by show 1 ≤ Z; omega, by show Z ≤ 1099511627776; omega⟩, hgd, hft.c⟩
        have HST : Hid (∀ {w W : World} {cur : Array Value} {v : Value}, AkI R G w2 k xs w → w.heap[w2.heap.size]? = some (.cells cur 43) → StW w W w2.heap.size (k * 9) cur 43 (c9 ⟨v, D, f, Z, G[k].2⟩) → SReads w v D → (∀ b, v.ownBlock = some b → w2.heap.size < b) → AkI R G w2 (k + 1) (xs ++ [⟨v, D, f, Z, G[k].2⟩]) W) := fun h1 h2 h3 h4 h5 => h1.store hlt h2 h3 (hrow _) (HOK.out _) h4 h5
        obtain ⟨X, HX⟩ := hid_ex G[k]
        rw [← HX.out] at hR hRw hA hc hkl HST hrd
        clear hcw hrow HOK hft hgd hmay hf0 hf1
        have c0 := hc 0 (by decide)
        have c1 := hc 1 (by decide)
        have c2 := hc 2 (by decide)
        have c3 := hc 3 (by decide)
        have c4 := hc 4 (by decide)
        have c5 := hc 5 (by decide)
        have c6 := hc 6 (by decide)
        simp only [c7, List.getElem_cons_zero, List.getElem_cons_succ, Nat.add_zero] at c0 c1 c2 c3 c4 c5 c6
        obtain ⟨ak, ck, hkv, _⟩ := hR.form
        subst hkv
        obtain ⟨w4, HW4⟩ := hid_ex (wr.alloc (.cells #[.slice ak X.1.length ck, .int .u64 X.2.c, .bool X.2.o, .int .i64 (hi X.2.s), .int .u64 (lo X.2.s), .int .i64 X.2.mn, .int .i64 X.2.mx] 53))
        have hb4 : Below wr.heap.size wr w4 := by rw [HW4.out]; exact (Below.refl _ _).alloc (Nat.le_refl _) _
        have HR4 : Hid (Reads w4 (.slice ak X.1.length ck) X.1) := hR.below hb4
        have HBX : Hid (w4.heap[wr.heap.size]? = some (.cells #[.slice ak X.1.length ck, .int .u64 X.2.c, .bool X.2.o, .int .i64 (hi X.2.s), .int .u64 (lo X.2.s), .int .i64 X.2.mn, .int .i64 X.2.mx] 53)) := by rw [HW4.out]; exact heap_alloc_new _ _
        have HC4 : Hid (AkI R G w2 k xs w4) := HC.out.below hb4
        obtain ⟨kn, Hkn⟩ := hid_ex X.1.length
        rw [← Hkn.out] at c0 HW4 HR4 HBX
        have b0 := (cell_row HBX.out 0 (by simp)).1
        simp only [List.getElem_toArray, List.getElem_cons_zero] at b0
        clear hc hR hRw hb4 HC
        go_wp2_with fail
        rw [← HW4.out]
        clear c0 c1 c2 c3 c4 c5 c6 HW4 b0
        refine (read_own _ X.1 hkl _ HR4.out).mono ?_
        rintro e w5 (⟨D', f', gI, vd, hrd', rfl, hkl5, hown5, hb5⟩ | ⟨hrd', rfl, hb5⟩)
        · rw [hrd] at hrd'
          simp only [Option.some.injEq, Prod.mk.injEq] at hrd'
          obtain ⟨rfl, rfl, rfl⟩ := hrd'
          have HC5 : Hid (AkI R G w2 k xs w5) := HC4.out.below hb5
          have HX5 : Hid (w5.heap[wr.heap.size]? = some (.cells #[.slice ak kn ck, .int .u64 X.2.c, .bool X.2.o, .int .i64 (hi X.2.s), .int .u64 (lo X.2.s), .int .i64 X.2.mn, .int .i64 X.2.mx] 53)) := (hb5.block _ (Array.getElem?_eq_some_iff.1 HBX.out).1).trans HBX.out
          obtain ⟨va, vc, hvd, _⟩ := hkl5.r.form
          simp only at hvd
          subst hvd
          have HSR5 : Hid (SReads w5 (.slice va D.length vc) D) := hkl5.r
          have HOW : Hid (∀ b, (Value.slice va D.length vc).ownBlock = some b → w2.heap.size < b) := fun b hb => by have h1 := hown5 b hb; have h2 := HC4.out.b.size; omega
          obtain ⟨dn, Hdn⟩ := hid_ex D.length
          rw [← Hdn.out] at HSR5 HOW ⊢
          obtain ⟨w6, HW6⟩ := hid_ex (w5.alloc (.cells #[.slice va dn vc, .int .i64 f, .int .i64 (g : Int)] 64))
          have hb6 : Below w5.heap.size w5 w6 := by rw [HW6.out]; exact new_below _ _
          have HC6 : Hid (AkI R G w2 k xs w6) := HC5.out.below hb6
          have HX6 : Hid (w6.heap[wr.heap.size]? = some (.cells #[.slice ak kn ck, .int .u64 X.2.c, .bool X.2.o, .int .i64 (hi X.2.s), .int .u64 (lo X.2.s), .int .i64 X.2.mn, .int .i64 X.2.mx] 53)) := (hb6.block _ (Array.getElem?_eq_some_iff.1 HX5.out).1).trans HX5.out
          have HY6 : Hid (w6.heap[w5.heap.size]? = some (.cells #[.slice va dn vc, .int .i64 f, .int .i64 (g : Int)] 64)) := by rw [HW6.out]; exact heap_alloc_new _ _
          have HSR6 : Hid (SReads w6 (.slice va dn vc) D) := HSR5.out.below hb6
          have HRX : Hid (RBox R w.heap.size w6) := (HX2.out.below (HC6.out.b))
          have HL6 : Hid (Lies R w6.heap.size w6) := HL2.out.at HC6.out.b
          have hbx := (cell_row HX6.out 1 (by simp)).1
          have d1 := (cell_row HX6.out 1 (by simp)).1
          have d2 := (cell_row HX6.out 2 (by simp)).1
          have d3 := (cell_row HX6.out 3 (by simp)).1
          have d4 := (cell_row HX6.out 4 (by simp)).1
          have d5 := (cell_row HX6.out 5 (by simp)).1
          have d6 := (cell_row HX6.out 6 (by simp)).1
          have e0 := (cell_row HY6.out 0 (by simp)).1
          have e1 := (cell_row HY6.out 1 (by simp)).1
          have e2 := (cell_row HY6.out 2 (by simp)).1
          simp only [List.getElem_toArray, List.getElem_cons_zero, List.getElem_cons_succ] at d1 d2 d3 d4 d5 d6 e0 e1 e2
          obtain ⟨_, r0, _⟩ := HRX.out
          obtain ⟨gb, goff, hga, hgb, hgc⟩ := HL6.out.2.2.resolve_left (by omega)
          have z0 := (hgc g hgl2).1
          rw [hZ] at z0
          rw [hga] at r0
          clear hga
          have hgl2' : (g : Int) < (R.len : Int) := by omega
          obtain ⟨cur, hcur⟩ := row_block HC6.out.r
          have hfit : k * 9 + 9 ≤ cur.size := by
            rcases HC6.out.r.2 with ⟨q, _⟩ | ⟨g', c', cur0, q, _, hw, hc1, _, hs, _⟩
            · simp at q
            · simp at q
              obtain ⟨rfl, rfl⟩ := q
              rw [hcur] at hw
              simp at hw
              subst hw
              omega
          have HCUR : Hid (w6.heap[w2.heap.size]? = some (.cells cur 43)) := hcur
          clear hkl5 hown5 hb5 hb6 HC5 HX5 HSR5 HBX HR4 hbx hgc hcur HC4
          go_wp2_with fail
          rw [← HW6.out]
          clear HW6
          refine wp_region_noPanic ?_
          refine wp_region_S 17 (fun _ => True) (fun w' => w'.cell? ⟨wr.heap.size, 1, none⟩ = some (.int .u64 X.2.c) ∧ w'.cell? ⟨wr.heap.size, 2, none⟩ = some (.bool X.2.o) ∧ w'.cell? ⟨wr.heap.size, 3, none⟩ = some (.int .i64 (hi X.2.s)) ∧ w'.cell? ⟨wr.heap.size, 4, none⟩ = some (.int .u64 (lo X.2.s)) ∧ w'.cell? ⟨wr.heap.size, 5, none⟩ = some (.int .i64 X.2.mn) ∧ w'.cell? ⟨wr.heap.size, 6, none⟩ = some (.int .i64 X.2.mx) ∧ w'.cell? ⟨w5.heap.size, 0, none⟩ = some (.slice va dn vc) ∧ w'.cell? ⟨w5.heap.size, 1, none⟩ = some (.int .i64 f) ∧ w'.cell? ⟨w5.heap.size, 2, none⟩ = some (.int .i64 (g : Int)) ∧ w'.cell? ⟨w.heap.size, 0, none⟩ = some (.slice (some ⟨gb, goff, none⟩) R.len R.cap) ∧ w'.cell? ⟨gb, goff + g * 2, none⟩ = some (.int .i64 (Z : Int))) (by kernel_rfl) ?_ ?_ (fun hHeld => ?_)
          · trivial
          · exact ⟨d1, d2, d3, d4, d5, d6, e0, e1, e2, r0, z0⟩
          refine wpAnyS_take (i := 0) (v := .slice (some ⟨w2.heap.size, 0, none⟩) G.length G.length) _ rfl (by kernel_rfl) (by kernel_rfl) (by kernel_rfl) (by kernel_rfl) (by kernel_rfl) rfl (fun _ _ _ h => h) (Or.inl ⟨by rfl, ?_⟩) hHeld (fun hHeld => ?_)
          · (intro w1 hSw; have hSw := hSw.1; (try dsimp only at hSw); go_simp)
          simp only [List.getElem_toArray, List.getElem_cons_zero, Act.put, List.setIfInBounds_toArray, List.set_cons_zero, List.set_cons_succ]
          refine wpAnyS_take (i := 1) (v := .int .i64 (k : Int)) _ rfl (by kernel_rfl) (by kernel_rfl) (by kernel_rfl) (by kernel_rfl) (by kernel_rfl) rfl (fun _ _ _ h => h) (Or.inl ⟨by rfl, ?_⟩) hHeld (fun hHeld => ?_)
          · (intro w1 hSw; have hSw := hSw.1; (try dsimp only at hSw); go_simp)
          simp only [List.getElem_toArray, List.getElem_cons_succ, List.getElem_cons_zero, Act.put, List.setIfInBounds_toArray, List.set_cons_zero, List.set_cons_succ]
          refine wpAnyS_take (i := 2) (v := .pointer (some ⟨w5.heap.size, 0, none⟩)) _ rfl (by kernel_rfl) (by kernel_rfl) (by kernel_rfl) (by kernel_rfl) (by kernel_rfl) rfl (fun _ _ _ h => h) (Or.inl ⟨by rfl, ?_⟩) hHeld (fun hHeld => ?_)
          · (intro w1 hSw; have hSw := hSw.1; (try dsimp only at hSw); go_simp)
          simp only [List.getElem_toArray, List.getElem_cons_succ, List.getElem_cons_zero, Act.put, List.setIfInBounds_toArray, List.set_cons_zero, List.set_cons_succ]
          refine wpAnyS_take (i := 3) (v := .slice va dn vc) true rfl (by kernel_rfl) (by kernel_rfl) (by kernel_rfl) (by kernel_rfl) (by kernel_rfl) (by kernel_rfl) (fun _ _ _ h => h) (Or.inl ⟨by rfl, ?_⟩) hHeld (fun hHeld => ?_)
          · (intro w1 hSw; have hSw2 := hSw.2 rfl; have hSw := hSw.1; (try dsimp only at hSw hSw2); go_simp)
          simp only [List.getElem_toArray, List.getElem_cons_succ, List.getElem_cons_zero, Act.put, List.setIfInBounds_toArray, List.set_cons_zero, List.set_cons_succ]
          refine wpAnyS_take (i := 4) (v := .pointer (some ⟨w5.heap.size, 1, none⟩)) _ rfl (by kernel_rfl) (by kernel_rfl) (by kernel_rfl) (by kernel_rfl) (by kernel_rfl) rfl (fun _ _ _ h => h) (Or.inl ⟨by rfl, ?_⟩) hHeld (fun hHeld => ?_)
          · (intro w1 hSw; have hSw := hSw.1; (try dsimp only at hSw); go_simp)
          simp only [List.getElem_toArray, List.getElem_cons_succ, List.getElem_cons_zero, Act.put, List.setIfInBounds_toArray, List.set_cons_zero, List.set_cons_succ]
          refine wpAnyS_take (i := 5) (v := .int .i64 f) true rfl (by kernel_rfl) (by kernel_rfl) (by kernel_rfl) (by kernel_rfl) (by kernel_rfl) (by kernel_rfl) (fun _ _ _ h => h) (Or.inl ⟨by rfl, ?_⟩) hHeld (fun hHeld => ?_)
          · (intro w1 hSw; have hSw2 := hSw.2 rfl; have hSw := hSw.1; (try dsimp only at hSw hSw2); go_simp)
          simp only [List.getElem_toArray, List.getElem_cons_succ, List.getElem_cons_zero, Act.put, List.setIfInBounds_toArray, List.set_cons_zero, List.set_cons_succ]
          refine wpAnyS_take (i := 6) (v := .pointer (some ⟨w.heap.size, 0, none⟩)) _ rfl (by kernel_rfl) (by kernel_rfl) (by kernel_rfl) (by kernel_rfl) (by kernel_rfl) rfl (fun _ _ _ h => h) (Or.inl ⟨by rfl, ?_⟩) hHeld (fun hHeld => ?_)
          · (intro w1 hSw; have hSw := hSw.1; (try dsimp only at hSw); go_simp)
          simp only [List.getElem_toArray, List.getElem_cons_succ, List.getElem_cons_zero, Act.put, List.setIfInBounds_toArray, List.set_cons_zero, List.set_cons_succ]
          refine wpAnyS_take (i := 7) (v := .slice (some ⟨gb, goff, none⟩) R.len R.cap) true rfl (by kernel_rfl) (by kernel_rfl) (by kernel_rfl) (by kernel_rfl) (by kernel_rfl) (by kernel_rfl) (fun _ _ _ h => h) (Or.inl ⟨by rfl, ?_⟩) hHeld (fun hHeld => ?_)
          · (intro w1 hSw; have hSw2 := hSw.2 rfl; have hSw := hSw.1; (try dsimp only at hSw hSw2); go_simp)
          simp only [List.getElem_toArray, List.getElem_cons_succ, List.getElem_cons_zero, Act.put, List.setIfInBounds_toArray, List.set_cons_zero, List.set_cons_succ]
          refine wpAnyS_take (i := 8) (v := .pointer (some ⟨w5.heap.size, 2, none⟩)) _ rfl (by kernel_rfl) (by kernel_rfl) (by kernel_rfl) (by kernel_rfl) (by kernel_rfl) rfl (fun _ _ _ h => h) (Or.inl ⟨by rfl, ?_⟩) hHeld (fun hHeld => ?_)
          · (intro w1 hSw; have hSw := hSw.1; (try dsimp only at hSw); go_simp)
          simp only [List.getElem_toArray, List.getElem_cons_succ, List.getElem_cons_zero, Act.put, List.setIfInBounds_toArray, List.set_cons_zero, List.set_cons_succ]
          refine wpAnyS_take (i := 9) (v := .int .i64 (g : Int)) true rfl (by kernel_rfl) (by kernel_rfl) (by kernel_rfl) (by kernel_rfl) (by kernel_rfl) (by kernel_rfl) (fun _ _ _ h => h) (Or.inl ⟨by rfl, ?_⟩) hHeld (fun hHeld => ?_)
          · (intro w1 hSw; have hSw2 := hSw.2 rfl; have hSw := hSw.1; (try dsimp only at hSw hSw2); go_simp)
          simp only [List.getElem_toArray, List.getElem_cons_succ, List.getElem_cons_zero, Act.put, List.setIfInBounds_toArray, List.set_cons_zero, List.set_cons_succ]
          refine wpAnyS_take (i := 10) (v := .pointer (some ⟨gb, goff + g * 2, none⟩)) _ rfl (by kernel_rfl) (by kernel_rfl) (by kernel_rfl) (by kernel_rfl) (by kernel_rfl) rfl (fun _ _ _ h => h) (Or.inl ⟨by rfl, ?_⟩) hHeld (fun hHeld => ?_)
          · (intro w1 hSw; have hSw := hSw.1; (try dsimp only at hSw); go_simp)
          simp only [List.getElem_toArray, List.getElem_cons_succ, List.getElem_cons_zero, Act.put, List.setIfInBounds_toArray, List.set_cons_zero, List.set_cons_succ]
          refine wpAnyS_take (i := 11) (v := .pointer (some ⟨gb, goff + g * 2, none⟩)) _ rfl (by kernel_rfl) (by kernel_rfl) (by kernel_rfl) (by kernel_rfl) (by kernel_rfl) rfl (fun _ _ _ h => h) (Or.inl ⟨by rfl, ?_⟩) hHeld (fun hHeld => ?_)
          · (intro w1 hSw; have hSw := hSw.1; (try dsimp only at hSw); go_simp)
          simp only [List.getElem_toArray, List.getElem_cons_succ, List.getElem_cons_zero, Act.put, List.setIfInBounds_toArray, List.set_cons_zero, List.set_cons_succ]
          refine wpAnyS_take (i := 12) (v := .int .i64 (Z : Int)) true rfl (by kernel_rfl) (by kernel_rfl) (by kernel_rfl) (by kernel_rfl) (by kernel_rfl) (by kernel_rfl) (fun _ _ _ h => h) (Or.inl ⟨by rfl, ?_⟩) hHeld (fun hHeld => ?_)
          · (intro w1 hSw; have hSw2 := hSw.2 rfl; have hSw := hSw.1; (try dsimp only at hSw hSw2); go_simp)
          simp only [List.getElem_toArray, List.getElem_cons_succ, List.getElem_cons_zero, Act.put, List.setIfInBounds_toArray, List.set_cons_zero, List.set_cons_succ]
          refine wpAnyS_take (i := 13) (v := .pointer (some ⟨wr.heap.size, 1, none⟩)) _ rfl (by kernel_rfl) (by kernel_rfl) (by kernel_rfl) (by kernel_rfl) (by kernel_rfl) rfl (fun _ _ _ h => h) (Or.inl ⟨by rfl, ?_⟩) hHeld (fun hHeld => ?_)
          · (intro w1 hSw; have hSw := hSw.1; (try dsimp only at hSw); go_simp)
          simp only [List.getElem_toArray, List.getElem_cons_succ, List.getElem_cons_zero, Act.put, List.setIfInBounds_toArray, List.set_cons_zero, List.set_cons_succ]
          refine wpAnyS_take (i := 14) (v := .agg #[.int .u64 X.2.c, .bool X.2.o, .int .i64 (hi X.2.s), .int .u64 (lo X.2.s), .int .i64 X.2.mn, .int .i64 X.2.mx]) true rfl (by kernel_rfl) (by kernel_rfl) (by kernel_rfl) (by kernel_rfl) (by kernel_rfl) (by kernel_rfl) (fun _ _ _ h => h) (Or.inl ⟨by rfl, ?_⟩) hHeld (fun hHeld => ?_)
          · (intro w1 hSw; have hSw2 := hSw.2 rfl; have hSw := hSw.1; (try dsimp only at hSw hSw2); go_simp)
          simp only [List.getElem_toArray, List.getElem_cons_succ, List.getElem_cons_zero, Act.put, List.setIfInBounds_toArray, List.set_cons_zero, List.set_cons_succ]
          refine wpAnyS_take (i := 15) (v := .agg #[.slice va dn vc, .int .i64 f, .int .i64 (Z : Int), .int .u64 X.2.c, .bool X.2.o, .int .i64 (hi X.2.s), .int .u64 (lo X.2.s), .int .i64 X.2.mn, .int .i64 X.2.mx]) _ rfl (by kernel_rfl) (by kernel_rfl) (by kernel_rfl) (by kernel_rfl) (by kernel_rfl) rfl (fun _ _ _ h => h) (Or.inl ⟨by rfl, ?_⟩) hHeld (fun hHeld => ?_)
          · (intro w1 hSw; have hSw := hSw.1; (try dsimp only at hSw); go_simp)
          simp only [List.getElem_toArray, List.getElem_cons_succ, List.getElem_cons_zero, Act.put, List.setIfInBounds_toArray, List.set_cons_zero, List.set_cons_succ]
          refine wpAnyS_take (i := 16) (v := .pointer (some ⟨w2.heap.size, k * 9, none⟩)) _ rfl (by kernel_rfl) (by kernel_rfl) (by kernel_rfl) (by kernel_rfl) (by kernel_rfl) rfl (fun _ _ _ h => h) (Or.inl ⟨by rfl, ?_⟩) hHeld (fun hHeld => ?_)
          · (intro w1 hSw; have hSw := hSw.1; (try dsimp only at hSw); go_simp)
          simp only [List.getElem_toArray, List.getElem_cons_succ, List.getElem_cons_zero, Act.put, List.setIfInBounds_toArray, List.set_cons_zero, List.set_cons_succ]
          refine wpAnyS_ready (i := 17) (by kernel_rfl) rfl (fun K hK => ?_)
          rw [if_pos (by rfl)]
          refine wp_storeN _ _ _ rfl w2.heap.size (k * 9) (c9 ⟨.slice va dn vc, D, f, Z, X.2⟩) rfl rfl cur _ HCUR.out hfit (by kernel_rfl) (by kernel_rfl) (fun W hW => ?_)
          refine hK.out _ _ ⟨?_, fun hno => absurd hno (by decide)⟩ (fun hHeld => ?_)
          · trivial
          clear hK K
          refine wpAnyS_done (by kernel_rfl) ?_ _
          refine NoPanic.normal ?_
          have HN : Hid (AkI R G w2 (k + 1) (xs ++ [⟨.slice va dn vc, D, f, Z, X.2⟩]) W) := HST.out (HC6.out.below (Below.refl _ _).drew) HCUR.out hW (HSR6.out.below (Below.refl _ _).drew) HOW.out
          clear hW d1 d2 d3 d4 d5 d6 e0 e1 e2 r0 z0
          go_wp2_with fail
          go_roundw
          case rel => exact ⟨k + 1, _, by omega, by go_num, HN⟩
          case measure => simp [intOf]; omega
        · rw [hrd] at hrd'
          exact absurd hrd' (by simp)
      · obtain rfl : k = G.length := by omega
        have HEnd : Hid (F17 R wm L w (.returned (.tuple #[.slice (some ⟨w2.heap.size, 0, none⟩) G.length G.length, .int .i64 0])) wr) := by
          have h1 := HC.out.r
          have hxl := HC.out.l
          rw [Nat.sub_self, List.replicate_zero, List.append_nil] at h1
          refine ⟨HB2.out.trans (HC.out.b.mono HB2.out.size), .inr ⟨HZ.out, w2.heap.size, xs, by rw [hxl], ?_, ?_, HC.out.ok⟩⟩
          · rw [hxl]
            exact tReadsT h1 hxl (fun x hx => (HC.out.s x hx).1)
          · rw [HC.out.m, List.take_length, HG.out]; rfl
        go_wp2_with fail
        go_ret2
        exact HEnd.out
end Go.Proofs.Ytoenijflijfogaa

/- Layer 17: slices.Equal of texts, within, isRange, begins. -/
namespace Go.Proofs.Ytoenijflijfogaa
open Go.RowKit

set_option maxRecDepth 100000 in
set_option maxHeartbeats 4000000 in
theorem equalS_any (v u : Value) (D E : List ByteArray) (w : World) (hD : SReads w v D) (hE : SReads w u E) : Calls Try.prog 34 #[v, u] w fun e w' => e = .returned (.bool (decide (D = E))) ∧ Below w.heap.size w w' := by
  obtain ⟨a, ca, rfl, hla⟩ := hD.form
  obtain ⟨b, cb, rfl, hlb⟩ := hE.form
  unfold maxLen at hla hlb
  have HD : Hid (SReads w (.slice a D.length ca) D) := hD
  have HE : Hid (SReads w (.slice b E.length cb) E) := hE
  clear hD hE
  by_cases hn : D.length = E.length
  · have HN : Hid (D.length = E.length) := hn
    rw [← hn] at HE ⊢
    clear hn
    go_enter Try.func34, Try.ntmps34
    go_wp2_with fail
    go_loopw [13] (fun i wr => ∃ k : Nat, i = .int .i64 (k : Int) ∧ k ≤ D.length ∧ Hid (D.take k = E.take k) ∧ Hid (Below w.heap.size w wr)) (fun i _ => D.length - (intOf i).toNat)
    case atStart => exact ⟨0, rfl, by omega, rfl, Below.refl _ _⟩
    case round =>
      obtain ⟨k, rfl, hk, HT, HB⟩ := hrel
      by_cases hlt : k < D.length
      · have hltE : k < E.length := by rw [← HN.out]; exact hlt
        obtain ⟨ba, oa, rfl, hba, xa⟩ := HD.out.at k hlt
        obtain ⟨bb, ob, rfl, hbb, xb⟩ := HE.out.at k hltE
        have HC : Hid (∀ w', Below w.heap.size w w' → w'.cell? ⟨ba, oa + k, none⟩ = some (.string D[k]) ∧ w'.cell? ⟨bb, ob + k, none⟩ = some (.string E[k])) := fun w' hb => ⟨(hb.cell (p := ⟨ba, oa + k, none⟩) hba).trans xa, (hb.cell (p := ⟨bb, ob + k, none⟩) hbb).trans xb⟩
        have HTK : Hid (D.take (k + 1) = D.take k ++ [D[k]] ∧ E.take (k + 1) = E.take k ++ [E[k]]) := ⟨by rw [List.take_add_one, List.getElem?_eq_getElem hlt]; rfl, by rw [List.take_add_one, List.getElem?_eq_getElem hltE]; rfl⟩
        have HNE : Hid (D[k] ≠ E[k] → decide (D = E) = false) := fun hne => decide_eq_false fun he => hne (by subst he; rfl)
        obtain ⟨s, Hs⟩ := hid_ex D[k]
        obtain ⟨t, Ht⟩ := hid_ex E[k]
        rw [← Hs.out, ← Ht.out] at HC HTK HNE
        have hlt' : (k : Int) < (D.length : Int) := by omega
        clear xa xb hltE Hs Ht
        by_cases hst : s = t
        · subst hst
          go_wp2_with fail
          refine wp_region_noPanic ?_
          refine wp_region_held_drew (S := (fun w' => Below w.heap.size w w')) (by kernel_rfl) ?_ (fun hHeld => ?_)
          · exact HB.out.drew
          refine wpAnyH_take (i := 0) (v := .slice (some ⟨ba, oa, none⟩) D.length ca) rfl (by kernel_rfl) (by kernel_rfl) (by kernel_rfl) (fun _ _ _ h => h) (Or.inl ⟨by rfl, ?_⟩) (by assumption) ?_
          · (intro w1 hSw; (try dsimp only at hSw); go_simp)
          simp only [List.getElem_toArray, List.getElem_cons_zero, Act.put, List.setIfInBounds_toArray, List.set_cons_zero, List.set_cons_succ]
          refine wpAnyH_take (i := 1) (v := .int .i64 (k : Int)) rfl (by kernel_rfl) (by kernel_rfl) (by kernel_rfl) (fun _ _ _ h => h) (Or.inl ⟨by rfl, ?_⟩) (by assumption) ?_
          · (intro w1 hSw; (try dsimp only at hSw); go_simp)
          simp only [List.getElem_toArray, List.getElem_cons_succ, List.getElem_cons_zero, Act.put, List.setIfInBounds_toArray, List.set_cons_zero, List.set_cons_succ]
          refine wpAnyH_take (i := 2) (v := .pointer (some ⟨ba, oa + k, none⟩)) rfl (by kernel_rfl) (by kernel_rfl) (by kernel_rfl) (fun _ _ _ h => h) (Or.inl ⟨by rfl, ?_⟩) (by assumption) ?_
          · (intro w1 hSw; (try dsimp only at hSw); go_simp)
          simp only [List.getElem_toArray, List.getElem_cons_succ, List.getElem_cons_zero, Act.put, List.setIfInBounds_toArray, List.set_cons_zero, List.set_cons_succ]
          refine wpAnyH_take (i := 3) (v := .string s) rfl (by kernel_rfl) (by kernel_rfl) (by kernel_rfl) (fun _ _ _ h => h) (Or.inl ⟨by rfl, ?_⟩) (by assumption) ?_
          · (intro w1 hSw; (try dsimp only at hSw); obtain ⟨h0, h1⟩ := HC.out _ hSw; go_simp)
          simp only [List.getElem_toArray, List.getElem_cons_succ, List.getElem_cons_zero, Act.put, List.setIfInBounds_toArray, List.set_cons_zero, List.set_cons_succ]
          refine wpAnyH_take (i := 4) (v := .slice (some ⟨bb, ob, none⟩) D.length cb) rfl (by kernel_rfl) (by kernel_rfl) (by kernel_rfl) (fun _ _ _ h => h) (Or.inl ⟨by rfl, ?_⟩) (by assumption) ?_
          · (intro w1 hSw; (try dsimp only at hSw); go_simp)
          simp only [List.getElem_toArray, List.getElem_cons_succ, List.getElem_cons_zero, Act.put, List.setIfInBounds_toArray, List.set_cons_zero, List.set_cons_succ]
          refine wpAnyH_take (i := 5) (v := .int .i64 (k : Int)) rfl (by kernel_rfl) (by kernel_rfl) (by kernel_rfl) (fun _ _ _ h => h) (Or.inl ⟨by rfl, ?_⟩) (by assumption) ?_
          · (intro w1 hSw; (try dsimp only at hSw); go_simp)
          simp only [List.getElem_toArray, List.getElem_cons_succ, List.getElem_cons_zero, Act.put, List.setIfInBounds_toArray, List.set_cons_zero, List.set_cons_succ]
          refine wpAnyH_take (i := 6) (v := .pointer (some ⟨bb, ob + k, none⟩)) rfl (by kernel_rfl) (by kernel_rfl) (by kernel_rfl) (fun _ _ _ h => h) (Or.inl ⟨by rfl, ?_⟩) (by assumption) ?_
          · (intro w1 hSw; (try dsimp only at hSw); go_simp)
          simp only [List.getElem_toArray, List.getElem_cons_succ, List.getElem_cons_zero, Act.put, List.setIfInBounds_toArray, List.set_cons_zero, List.set_cons_succ]
          refine wpAnyH_take (i := 7) (v := .string s) rfl (by kernel_rfl) (by kernel_rfl) (by kernel_rfl) (fun _ _ _ h => h) (Or.inl ⟨by rfl, ?_⟩) (by assumption) ?_
          · (intro w1 hSw; (try dsimp only at hSw); obtain ⟨h0, h1⟩ := HC.out _ hSw; go_simp)
          simp only [List.getElem_toArray, List.getElem_cons_succ, List.getElem_cons_zero, Act.put, List.setIfInBounds_toArray, List.set_cons_zero, List.set_cons_succ]
          refine wpAnyH_take (i := 8) (v := .bool false) rfl (by kernel_rfl) (by kernel_rfl) (by kernel_rfl) (fun _ _ _ h => h) (Or.inl ⟨by rfl, ?_⟩) (by assumption) ?_
          · (intro w1 hSw; (try dsimp only at hSw); go_simp)
          simp only [List.getElem_toArray, List.getElem_cons_succ, List.getElem_cons_zero, Act.put, List.setIfInBounds_toArray, List.set_cons_zero, List.set_cons_succ]
          refine wpAnyH_done (by kernel_rfl) ?_ _
          refine NoPanic.normal ?_
          have HBd : Hid (Below w.heap.size w wr.drew) := HB.out.drew
          have HTn : Hid (D.take (k + 1) = E.take (k + 1)) := by show _ = _; rw [HTK.out.1, HTK.out.2, HT.out]
          clear hHeld
          go_wp2_with fail
          go_roundw
          case rel => exact ⟨k + 1, by go_num, by omega, HTn, HBd⟩
          case measure => simp [intOf]; omega
        · have hst' : ¬ s.toList = t.toList := fun h => hst (by rw [ByteArray.toList_eq, ByteArray.toList_eq] at h; exact ByteArray.ext (Array.toList_inj.1 h))
          go_wp2_with fail
          refine wp_region_noPanic ?_
          refine wp_region_held_drew (S := (fun w' => Below w.heap.size w w')) (by kernel_rfl) ?_ (fun hHeld => ?_)
          · exact HB.out.drew
          refine wpAnyH_take (i := 0) (v := .slice (some ⟨ba, oa, none⟩) D.length ca) rfl (by kernel_rfl) (by kernel_rfl) (by kernel_rfl) (fun _ _ _ h => h) (Or.inl ⟨by rfl, ?_⟩) (by assumption) ?_
          · (intro w1 hSw; (try dsimp only at hSw); go_simp)
          simp only [List.getElem_toArray, List.getElem_cons_zero, Act.put, List.setIfInBounds_toArray, List.set_cons_zero, List.set_cons_succ]
          refine wpAnyH_take (i := 1) (v := .int .i64 (k : Int)) rfl (by kernel_rfl) (by kernel_rfl) (by kernel_rfl) (fun _ _ _ h => h) (Or.inl ⟨by rfl, ?_⟩) (by assumption) ?_
          · (intro w1 hSw; (try dsimp only at hSw); go_simp)
          simp only [List.getElem_toArray, List.getElem_cons_succ, List.getElem_cons_zero, Act.put, List.setIfInBounds_toArray, List.set_cons_zero, List.set_cons_succ]
          refine wpAnyH_take (i := 2) (v := .pointer (some ⟨ba, oa + k, none⟩)) rfl (by kernel_rfl) (by kernel_rfl) (by kernel_rfl) (fun _ _ _ h => h) (Or.inl ⟨by rfl, ?_⟩) (by assumption) ?_
          · (intro w1 hSw; (try dsimp only at hSw); go_simp)
          simp only [List.getElem_toArray, List.getElem_cons_succ, List.getElem_cons_zero, Act.put, List.setIfInBounds_toArray, List.set_cons_zero, List.set_cons_succ]
          refine wpAnyH_take (i := 3) (v := .string s) rfl (by kernel_rfl) (by kernel_rfl) (by kernel_rfl) (fun _ _ _ h => h) (Or.inl ⟨by rfl, ?_⟩) (by assumption) ?_
          · (intro w1 hSw; (try dsimp only at hSw); obtain ⟨h0, h1⟩ := HC.out _ hSw; go_simp)
          simp only [List.getElem_toArray, List.getElem_cons_succ, List.getElem_cons_zero, Act.put, List.setIfInBounds_toArray, List.set_cons_zero, List.set_cons_succ]
          refine wpAnyH_take (i := 4) (v := .slice (some ⟨bb, ob, none⟩) D.length cb) rfl (by kernel_rfl) (by kernel_rfl) (by kernel_rfl) (fun _ _ _ h => h) (Or.inl ⟨by rfl, ?_⟩) (by assumption) ?_
          · (intro w1 hSw; (try dsimp only at hSw); go_simp)
          simp only [List.getElem_toArray, List.getElem_cons_succ, List.getElem_cons_zero, Act.put, List.setIfInBounds_toArray, List.set_cons_zero, List.set_cons_succ]
          refine wpAnyH_take (i := 5) (v := .int .i64 (k : Int)) rfl (by kernel_rfl) (by kernel_rfl) (by kernel_rfl) (fun _ _ _ h => h) (Or.inl ⟨by rfl, ?_⟩) (by assumption) ?_
          · (intro w1 hSw; (try dsimp only at hSw); go_simp)
          simp only [List.getElem_toArray, List.getElem_cons_succ, List.getElem_cons_zero, Act.put, List.setIfInBounds_toArray, List.set_cons_zero, List.set_cons_succ]
          refine wpAnyH_take (i := 6) (v := .pointer (some ⟨bb, ob + k, none⟩)) rfl (by kernel_rfl) (by kernel_rfl) (by kernel_rfl) (fun _ _ _ h => h) (Or.inl ⟨by rfl, ?_⟩) (by assumption) ?_
          · (intro w1 hSw; (try dsimp only at hSw); go_simp)
          simp only [List.getElem_toArray, List.getElem_cons_succ, List.getElem_cons_zero, Act.put, List.setIfInBounds_toArray, List.set_cons_zero, List.set_cons_succ]
          refine wpAnyH_take (i := 7) (v := .string t) rfl (by kernel_rfl) (by kernel_rfl) (by kernel_rfl) (fun _ _ _ h => h) (Or.inl ⟨by rfl, ?_⟩) (by assumption) ?_
          · (intro w1 hSw; (try dsimp only at hSw); obtain ⟨h0, h1⟩ := HC.out _ hSw; go_simp)
          simp only [List.getElem_toArray, List.getElem_cons_succ, List.getElem_cons_zero, Act.put, List.setIfInBounds_toArray, List.set_cons_zero, List.set_cons_succ]
          refine wpAnyH_take (i := 8) (v := .bool true) rfl (by kernel_rfl) (by kernel_rfl) (by kernel_rfl) (fun _ _ _ h => h) (Or.inl ⟨by rfl, ?_⟩) (by assumption) ?_
          · (intro w1 hSw; (try dsimp only at hSw); go_simp)
          simp only [List.getElem_toArray, List.getElem_cons_succ, List.getElem_cons_zero, Act.put, List.setIfInBounds_toArray, List.set_cons_zero, List.set_cons_succ]
          refine wpAnyH_done (by kernel_rfl) ?_ _
          refine NoPanic.normal ?_
          have HBd : Hid (Below w.heap.size w wr.drew) := HB.out.drew
          clear hHeld
          go_wp2_with fail
          go_ret
          rw [HNE.out hst]
          exact ⟨rfl, HBd.out⟩
      · have hke : k = D.length := by omega
        have hde : decide (D = E) = true := decide_eq_true (by
          have h := HT.out
          rw [List.take_of_length_le (by omega), List.take_of_length_le (by rw [← HN.out]; omega)] at h
          exact h)
        have HDE : Hid (decide (D = E) = true) := hde
        clear hde
        have hlt' : ¬ (k : Int) < (D.length : Int) := by omega
        go_wp2_with fail
        go_ret
        rw [HDE.out]
        exact ⟨rfl, HB.out⟩
  · have hde : decide (D = E) = false := decide_eq_false fun he => hn (by rw [he])
    rw [hde]
    have hn' : ¬ (D.length : Int) = (E.length : Int) := by omega
    have hn2 : ((D.length : Int) == (E.length : Int)) = false := beq_false_of_ne hn'
    clear HD HE hde
    go_enter Try.func34, Try.ntmps34
    go_wp2_with fail
    go_ret
    exact ⟨rfl, Below.refl _ _⟩
set_option maxRecDepth 100000 in
set_option maxHeartbeats 2000000 in
theorem isRange_any (f t : Int) (w : World) : Calls Try.prog 18 #[.int .i64 f, .int .i64 t] w fun e w' => e = .returned (.bool (decide (0 ≤ f ∧ f ≤ t ∧ t ≤ 1099511627776))) ∧ w' = w := by
  by_cases h1 : 0 ≤ f
  · by_cases h2 : f ≤ t
    · by_cases h3 : t ≤ 1099511627776
      · rw [decide_eq_true ⟨h1, h2, h3⟩]
        go_enter Try.func18, Try.ntmps18
        go_wp2_with fail
        go_ret
        exact ⟨rfl, rfl⟩
      · rw [decide_eq_false (fun h => h3 h.2.2)]
        go_enter Try.func18, Try.ntmps18
        go_wp2_with fail
        go_ret
        exact ⟨rfl, rfl⟩
    · rw [decide_eq_false (fun h => h2 h.2.1)]
      go_enter Try.func18, Try.ntmps18
      go_wp2_with fail
      go_ret
      exact ⟨rfl, rfl⟩
  · rw [decide_eq_false (fun h => h1 h.1)]
    go_enter Try.func18, Try.ntmps18
    go_wp2_with fail
    go_ret
    exact ⟨rfl, rfl⟩
set_option maxRecDepth 100000 in
set_option maxHeartbeats 2000000 in
theorem within_any (x : It) (f t : Int) (w : World) : Calls Try.prog 20 #[itV x, .int .i64 f, .int .i64 t] w fun e w' => e = .returned (.bool (decide (f ≤ x.f ∧ x.f < t))) ∧ Below w.heap.size w w' := by
  obtain ⟨v, D, y, g, ag⟩ := x
  unfold itV
  simp only
  have HB : Hid (Below w.heap.size w (w.alloc (.cells #[v, .int .i64 y, .int .i64 (g : Int), .int .u64 ag.c, .bool ag.o, .int .i64 (hi ag.s), .int .u64 (lo ag.s), .int .i64 ag.mn, .int .i64 ag.mx] 43))) := (Below.refl _ _).alloc (Nat.le_refl _) _
  by_cases h1 : f ≤ y
  · by_cases h2 : y < t
    · rw [decide_eq_true ⟨h1, h2⟩]
      go_enter Try.func20, Try.ntmps20
      go_wp2_with fail
      go_ret
      exact ⟨rfl, HB.out⟩
    · rw [decide_eq_false (fun h => h2 h.2)]
      go_enter Try.func20, Try.ntmps20
      go_wp2_with fail
      go_ret
      exact ⟨rfl, HB.out⟩
  · rw [decide_eq_false (fun h => h1 h.1)]
    go_enter Try.func20, Try.ntmps20
    go_wp2_with fail
    go_ret
    exact ⟨rfl, HB.out⟩
end Go.Proofs.Ytoenijflijfogaa

/- Layer 17: begins; what Scan and Get are, plainly. -/
namespace Go.Proofs.Ytoenijflijfogaa
open Go.RowKit

theorem sizeT17 (w : World) : (sizeOf 9).run Try.prog w = .ok 1 w := by
  simp [sizeOf]
  rfl
theorem elemT17 : Try.prog.elem 26 = 9 := by kernel_rfl
theorem undT17 : Try.prog.underlying 26 = some (.slice (Try.prog.elem 26)) := by rw [elemT17]; exact Try.underlying26
theorem SReads.upto {w : World} {a : Option Addr} {cap : Nat} {L : List ByteArray} (h : SReads w (.slice a L.length cap) L) {d : Nat} (hd : d ≤ L.length) : SReads w (sliced a 0 d cap 1) (L.take d) := by
  unfold Go.sliced
  rcases Nat.eq_zero_or_pos d with h0 | h0
  · subst h0
    refine .inl ⟨rfl, _, _, rfl, fun hn => ?_⟩
    split at hn
    · omega
    · rcases h with ⟨rfl, a', cap', hv, hz⟩ | ⟨b, off, cap', hv, _⟩
      · simp at hv
        obtain ⟨rfl, rfl⟩ := hv
        cases a with
        | none => rw [hz rfl]
        | some x => simp at hn
      · simp at hv
        obtain ⟨rfl, _⟩ := hv
        simp at hn
  · rcases h with ⟨rfl, _⟩ | ⟨b, off, cap', hv, h2, h3, h4, h5, h6, h7⟩
    · simp at hd; omega
    · simp at hv
      obtain ⟨rfl, rfl⟩ := hv
      rw [if_neg (by omega)]
      have ea : Option.map (fun x : Addr => x.add (0 * 1)) (some (⟨b, off, none⟩ : Addr)) = some ⟨b, off, none⟩ := by simp [Addr.add]
      rw [ea]
      have hl : (L.take d).length = d := by simp; omega
      refine .inr ⟨b, off, cap - 0, by rw [hl]; rfl, by omega, by omega, by omega, h5, fun j hj => ?_, fun s hs => h7 s (List.mem_of_mem_take hs)⟩
      rw [h6 j (by omega)]; simp
theorem ssl_upto {w : World} {a : Option Addr} {cap : Nat} {L : List ByteArray} (h : SReads w (.slice a L.length cap) L) {d : Nat} (hd : d ≤ L.length) :
    ∃ a' cap', (∀ w', (Instr.slice 26 (.slice a L.length cap) none (some (.int .i64 (d : Int))) none).run Try.prog w' = .ok (.slice a' d cap') w') ∧ SReads w (.slice a' d cap') (L.take d) := by
  have hcap : d ≤ cap := by
    rcases h with ⟨rfl, _⟩ | ⟨b, off, cap', hv, h2, h3, h4, h5, h6, h7⟩
    · simp at hd; omega
    · simp at hv; omega
  refine ⟨(if cap = 0 then a else a.map (·.add (0 * 1))), cap - 0, fun w' => ?_, ?_⟩
  rotate_left
  · exact h.upto hd
  · rw [run_slice_h _ _ _ _ _ undT17 _ _ (by omega) (by omega), elemT17, sizeT17]
    rfl
set_option maxRecDepth 100000 in
set_option maxHeartbeats 600000 in
theorem begins17_aux (a b a' : Option Addr) (n m ca cb cap' : Nat) (B : Bool) (w : World) (hnm : (m : Int) ≤ (n : Int)) (_ : (n : Int) ≤ 9223372036854775807) (hsl : ∀ w', (Instr.slice 26 (.slice a n ca) none (some (.int .i64 (m : Int))) none).run Try.prog w' = .ok (.slice a' m cap') w') (hq : Calls Try.prog 34 #[.slice a' m cap', .slice b m cb] w fun e w' => e = .returned (.bool B) ∧ Below w.heap.size w w') : Calls Try.prog 19 #[.slice a n ca, .slice b m cb] w fun e w' => e = .returned (.bool B) ∧ Below w.heap.size w w' := by
  have HEQ : Hid (Calls Try.prog 34 #[.slice a' m cap', .slice b m cb] w fun e w' => e = .returned (.bool B) ∧ Below w.heap.size w w') := hq
  clear hq
  go_enter Try.func19, Try.ntmps19
  go_wp2_with fail
  refine HEQ.out.mono ?_
  rintro e w1 ⟨rfl, hb1⟩
  have HB1 : Hid (Below w.heap.size w w1) := hb1
  clear hb1
  go_wp2_with fail
  go_ret
  exact ⟨rfl, HB1.out⟩
set_option maxRecDepth 100000 in
set_option maxHeartbeats 600000 in
theorem begins17_no (a b : Option Addr) (n m ca cb : Nat) (w : World) (hnm : ¬ (m : Int) ≤ (n : Int)) (_ : (m : Int) ≤ 9223372036854775807) : Calls Try.prog 19 #[.slice a n ca, .slice b m cb] w fun e w' => e = .returned (.bool false) ∧ Below w.heap.size w w' := by
  go_enter Try.func19, Try.ntmps19
  go_wp2_with fail
  go_ret
  exact ⟨rfl, Below.refl _ _⟩
theorem begins17_any (v u : Value) (D F : List ByteArray) (w : World) (hD : SReads w v D) (hF : SReads w u F) : Calls Try.prog 19 #[v, u] w fun e w' => e = .returned (.bool (decide (D.take F.length = F))) ∧ Below w.heap.size w w' := by
  obtain ⟨a, ca, rfl, hla⟩ := hD.form
  obtain ⟨b, cb, rfl, hlb⟩ := hF.form
  unfold maxLen at hla hlb
  by_cases hn : F.length ≤ D.length
  · obtain ⟨a', cap', hsl, hSR⟩ := ssl_upto hD hn
    have hl : (D.take F.length).length = F.length := by simp; omega
    have hq := equalS_any _ _ (D.take F.length) F w hSR hF
    exact begins17_aux a b a' D.length F.length ca cb cap' _ w (by omega) (by omega) hsl hq
  · rw [decide_eq_false (fun h => hn (by have := congrArg List.length h; rw [List.length_take] at this; omega))]
    exact begins17_no a b D.length F.length ca cb w (by omega) (by omega)
/-- What Scan tells, plainly. -/
def scanF (D : List ByteArray) (f t : Int) (rs : List Rw) : List Rw := rs.filter fun x => decide (x.D.take D.length = D) && decide (f ≤ x.f ∧ x.f < t)
/-- One round of Get. -/
def getS (D : List ByteArray) (t : Int) (r x : Rw) : Rw := if x.D = D ∧ x.f ≤ t ∧ t < x.f + x.z then { (if r.z < x.z then x else r) with a := mrg r.a x.a } else r
/-- What Get tells, plainly. -/
def getF (D : List ByteArray) (t : Int) (rs : List Rw) : Rw := rs.foldl (getS D t) rwZ
end Go.Proofs.Ytoenijflijfogaa

/- The contract of ask.Get. -/
namespace Go.Proofs.Ytoenijflijfogaa
open Go.RowKit

theorem box9 {w W : World} {g : Nat} {cur : Array Value} {T : TypeId} {vs : List Value} (h : StW w W g 0 cur T vs) (hb : cur.size = vs.length) : W.heap[g]? = some (.cells vs.toArray T) := by
  obtain ⟨cur', c1, c2, c3, c4⟩ := h.c
  rw [c1]
  congr 2
  apply Array.ext_getElem?
  intro i
  by_cases hi : i < vs.length
  · have := c4 i hi
    rw [Nat.zero_add] at this
    rw [this]
    simp [hi]
  · rw [Array.getElem?_eq_none (by omega), Array.getElem?_eq_none (by simpa using hi)]
theorem cz9 : (c9 itZ).toArray = (#[.slice none 0 0, .int .i64 0, .int .i64 0, .int .u64 0, .bool false, .int .i64 0, .int .u64 0, .int .i64 0, .int .i64 0] : Array Value) := by rfl
def ag6 (b : Ag) : List Value := [.int .u64 b.c, .bool b.o, .int .i64 (hi b.s), .int .u64 (lo b.s), .int .i64 b.mn, .int .i64 b.mx]
theorem box_agg {w W : World} {g : Nat} {T : TypeId} {v : Value} {D : List ByteArray} {f : Int} {z : Nat} {a b : Ag} (h : StW w W g 3 (c9 ⟨v, D, f, z, a⟩).toArray T (ag6 b)) : W.heap[g]? = some (.cells (c9 ⟨v, D, f, z, b⟩).toArray T) := by
  obtain ⟨cur', k1, k2, k3, k4⟩ := h.c
  rw [k1]
  congr 2
  have hs : cur'.size = 9 := k2
  apply Array.ext_getElem?
  intro i
  match i with
  | 0 => exact k3 0 (.inl (by omega))
  | 1 => exact k3 1 (.inl (by omega))
  | 2 => exact k3 2 (.inl (by omega))
  | 3 => exact k4 0 (by simp [ag6])
  | 4 => exact k4 1 (by simp [ag6])
  | 5 => exact k4 2 (by simp [ag6])
  | 6 => exact k4 3 (by simp [ag6])
  | 7 => exact k4 4 (by simp [ag6])
  | 8 => exact k4 5 (by simp [ag6])
  | i + 9 => rw [Array.getElem?_eq_none (by omega), Array.getElem?_eq_none (by simp [c9])]
/-- What the loop of Get keeps. -/
structure GtI (D : List ByteArray) (t : Int) (xs : List It) (V : World) (k : Nat) (r : It) (wr : World) : Prop where
  c : wr.heap[V.heap.size]? = some (.cells (c9 r).toArray 43)
  s : SReads V r.v r.D
  m : itR r = getF D t ((xs.map itR).take k)
  g : Gd r.a
  b : Below V.heap.size V wr
theorem GtI.below {D : List ByteArray} {t : Int} {xs : List It} {V : World} {k : Nat} {r : It} {wr W : World} (h : GtI D t xs V k r wr) (hb : Below wr.heap.size wr W) : GtI D t xs V k r W :=
  ⟨(hb.block _ (Array.getElem?_eq_some_iff.1 h.c).1).trans h.c, h.s, h.m, h.g, h.b.trans (hb.mono h.b.size)⟩
theorem getF_snoc {D : List ByteArray} {t : Int} {xs : List It} {k : Nat} (hk : k < xs.length) : getF D t ((xs.map itR).take (k + 1)) = getS D t (getF D t ((xs.map itR).take k)) (itR xs[k]) := by
  unfold getF
  rw [List.take_add_one, List.getElem?_eq_getElem (by simpa using hk), List.foldl_append]
  simp
theorem no_text (i : Nat) (s : ByteArray) : (c9 itZ).toArray[i]? ≠ some (.string s) := by
  match i with
  | 0 | 1 | 2 | 3 | 4 | 5 | 6 | 7 | 8 => simp [c9, itZ]
  | i + 9 => rw [Array.getElem?_eq_none (by simp [c9])]; simp
theorem sreads_box {w W : World} {g : Nat} {T : TypeId} {vs : List Value} {v : Value} {D : List ByteArray} (h : SReads w v D) (hx : w.heap[g]? = some (.cells (c9 itZ).toArray T)) (hW : StW w W g 0 (c9 itZ).toArray T vs) : SReads W v D := by
  have hs := (hW.b 0 (Nat.zero_le _)).size
  rcases h with h | ⟨b, off, cap, h1, h2, h3, h4, h5, h6, h7⟩
  · exact .inl h
  · have hb : b ≠ g := fun e => by
      subst e
      have h0 := h6 0 h2
      rw [Go.Joins.cell_of_block hx] at h0
      exact no_text _ _ h0
    refine .inr ⟨b, off, cap, h1, h2, h3, h4, Nat.lt_of_lt_of_le h5 hs, fun j hj => ?_, h7⟩
    rw [← h6 j hj]
    exact World.cell?_of_block (hW.o b hb)
theorem getS_no {D : List ByteArray} {t : Int} {r x : Rw} (h : ¬ (x.D = D ∧ x.f ≤ t ∧ t < x.f + x.z)) : getS D t r x = r := if_neg h
theorem getS_big {D : List ByteArray} {t : Int} {r x : Rw} (h : x.D = D ∧ x.f ≤ t ∧ t < x.f + x.z) (hz : r.z < x.z) : getS D t r x = ⟨x.D, x.f, x.z, mrg r.a x.a⟩ := by unfold getS; rw [if_pos h, if_pos hz]
theorem getS_old {D : List ByteArray} {t : Int} {r x : Rw} (h : x.D = D ∧ x.f ≤ t ∧ t < x.f + x.z) (hz : ¬ r.z < x.z) : getS D t r x = ⟨r.D, r.f, r.z, mrg r.a x.a⟩ := by unfold getS; rw [if_pos h, if_neg hz]
/-- What Get tells. -/
def G17 (R : Rl) (wm : Int) (L : List En) (D : List ByteArray) (t : Int) (w : World) (e : Ending) (w' : World) : Prop :=
  Below w.heap.size w w' ∧ ((chkF R wm L ≠ 0 ∧ e = .returned (.tuple #[.agg (c9 itZ).toArray, .bool false, .int .i64 (chkF R wm L)])) ∨ (chkF R wm L = 0 ∧ rightBK D t 0 = false ∧ e = .returned (.tuple #[.agg (c9 itZ).toArray, .bool false, .int .i64 110])) ∨
    (chkF R wm L = 0 ∧ rightBK D t 0 = true ∧ ∃ r : It, e = .returned (.tuple #[.agg (c9 r).toArray, .bool (decide (0 < r.g)), .int .i64 0]) ∧ SReads w' r.v r.D ∧ itR r = getF D t (rowsE R wm L)))
set_option maxRecDepth 100000 in
set_option maxHeartbeats 2000000 in
theorem get17_any (R : Rl) (wm : Int) (v : Value) (L : List En) (dv : Value) (D : List ByteArray) (t : Int) (w : World) (hL : Lies R w.heap.size w) (hE : EReads w v L) (hl : L.length ≤ 100000) (hk : ∀ x ∈ L, x.1.length ≤ 1000) (hD : SReads w dv D) (ht1 : -9223372036854775808 ≤ t) (ht2 : t ≤ 9223372036854775807) :
    Calls Try.prog 15 #[.agg #[.slice R.a R.len R.cap, .int .i64 R.kp], .int .i64 wm, v, dv, .int .i64 t] w (G17 R wm L D t w) := by
  obtain ⟨a, cap, rfl, hm1, hm2⟩ := hE.form
  obtain ⟨da, dc, rfl, hdl⟩ := hD.form
  unfold maxLen at hdl
  obtain ⟨w1, HW1⟩ := hid_ex ((w.alloc (.cells #[.slice R.a R.len R.cap, .int .i64 R.kp] 24)).alloc (.cells #[.slice none 0 0, .int .i64 0, .int .i64 0, .int .u64 0, .bool false, .int .i64 0, .int .u64 0, .int .i64 0, .int .i64 0] 43))
  have hb1 : Below w.heap.size w w1 := by rw [HW1.out]; exact ((Below.refl _ _).alloc (Nat.le_refl _) _).alloc (by simp) _
  have hz1 : w1.heap[w.heap.size + 1]? = some (.cells (c9 itZ).toArray 43) := by
    rw [HW1.out, cz9]
    have := heap_alloc_new (w.alloc (.cells #[.slice R.a R.len R.cap, .int .i64 R.kp] 24)) (.cells #[.slice none 0 0, .int .i64 0, .int .i64 0, .int .u64 0, .bool false, .int .i64 0, .int .u64 0, .int .i64 0, .int .i64 0] 43)
    simpa using this
  have HZ1 : Hid (w1.heap[w.heap.size + 1]? = some (.cells (c9 itZ).toArray 43)) := hz1
  have HB1 : Hid (Below w.heap.size w w1) := hb1
  have HF : Hid (Calls Try.prog 16 #[.agg #[.slice R.a R.len R.cap, .int .i64 R.kp], .int .i64 wm, .slice a L.length cap] w1 (F17 R wm L w1)) := folded17_any R wm _ L _ (hL.at hb1) (hE.below hb1) hl hk
  have HD1 : Hid (SReads w1 (.slice da D.length dc) D) := hD.below hb1
  clear hL hE hl hk hD hb1 hz1
  obtain ⟨dn, Hdn⟩ := hid_ex D.length
  rw [← Hdn.out] at HD1 hdl ⊢
  go_enter Try.func15, Try.ntmps15
  go_wp2_with fail
  rw [← HW1.out]
  clear HW1
  refine HF.out.mono ?_
  clear HF
  rintro e w2 ⟨hb2, ⟨hne, rfl⟩ | ⟨hz, g, xs, rfl, hT, hm, hok⟩⟩
  · have hb0 : (chkF R wm L == 0) = false := by simp [hne]
    have HX2 : Hid (w2.heap[w.heap.size + 1]? = some (.cells (c9 itZ).toArray 43)) := (hb2.block _ (Array.getElem?_eq_some_iff.1 HZ1.out).1).trans HZ1.out
    have HEnd : Hid (∀ W, Below w.heap.size w W → G17 R wm L D t w (.returned (.tuple #[.agg (c9 itZ).toArray, .bool false, .int .i64 (chkF R wm L)])) W) := fun W hW => ⟨hW, .inl ⟨hne, rfl⟩⟩
    have HB2 : Hid (Below w.heap.size w w2) := HB1.out.trans (hb2.mono HB1.out.size)
    clear hne hb2 HZ1 HB1
    generalize chkF R wm L = rr at *
    go_wp2_with (refine stop_store 43 _ _ rfl ?_)
    refine Stop.of ?_
    refine wpList_storeN rfl _ _ _ rfl (w.heap.size + 1) 0 (c9 itZ) rfl rfl _ _ HX2.out (by simp) (by kernel_rfl) (by kernel_rfl) ?_
    intro V hV
    have hx := box9 hV rfl
    have f := fun i hi => (cell_row hx i hi).1
    have f0 := f 0 (by simp [c9])
    have f1 := f 1 (by simp [c9])
    have f2 := f 2 (by simp [c9])
    have f3 := f 3 (by simp [c9])
    have f4 := f 4 (by simp [c9])
    have f5 := f 5 (by simp [c9])
    have f6 := f 6 (by simp [c9])
    have f7 := f 7 (by simp [c9])
    have f8 := f 8 (by simp [c9])
    simp only [c9, itZ, List.getElem_toArray, List.getElem_cons_zero, List.getElem_cons_succ] at f0 f1 f2 f3 f4 f5 f6 f7 f8
    have HE1 : Hid (G17 R wm L D t w _ V) := HEnd.out V (HB2.out.trans (hV.b _ (Nat.le_succ _)))
    clear hV hx f
    go_wp2_with fail
    refine bodyPost_ret (v := .tuple #[.agg (c9 itZ).toArray, .bool false, .int .i64 rr]) (by simp [results, Try.results15, go_sem, f0, f1, f2, f3, f4, f5, f6, f7, f8, c9, itZ]) rfl ?_
    exact HE1.out
  · have HX2 : Hid (w2.heap[w.heap.size + 1]? = some (.cells (c9 itZ).toArray 43)) := (hb2.block _ (Array.getElem?_eq_some_iff.1 HZ1.out).1).trans HZ1.out
    have HB2 : Hid (Below w.heap.size w w2) := HB1.out.trans (hb2.mono HB1.out.size)
    have HD2 : Hid (SReads w2 (.slice da dn dc) D) := HD1.out.below hb2
    have HRC : Hid (Calls Try.prog 17 #[.agg #[.slice da dn dc, .int .i64 t, .int .i64 0]] w2 fun e w' => e = .returned (.bool (rightBK D t 0)) ∧ Below w2.heap.size w2 w') := right_anyK ⟨.slice da dn dc, D, t, 0⟩ w2 ⟨HD2.out, ht1, ht2, by show (-9223372036854775808 : Int) ≤ 0; omega, by show (0 : Int) ≤ 9223372036854775807; omega⟩
    have HZ : Hid (chkF R wm L = 0) := hz
    have HOK : Hid (∀ x ∈ xs, RwOk x) := hok
    have HM : Hid (xs.map itR = rowsE R wm L) := hm
    obtain ⟨n, Hn⟩ := hid_ex xs.length
    rw [← Hn.out] at hT ⊢
    have HT2 : Hid (TReads w2 (.slice (some ⟨g, 0, none⟩) n n) xs) := hT
    have hnl : n ≤ maxLen := by
      obtain ⟨_, _, q1, q2, q3⟩ := hT.form
      simp at q1
      omega
    unfold maxLen at hnl
    clear hz hok hm hT hb2 HZ1 HB1 HD1
    go_wp2_with fail
    refine HRC.out.mono ?_
    clear HRC
    rintro e w3 ⟨rfl, hb3⟩
    have HX3 : Hid (w3.heap[w.heap.size + 1]? = some (.cells (c9 itZ).toArray 43)) := (hb3.block _ (Array.getElem?_eq_some_iff.1 HX2.out).1).trans HX2.out
    have HB3 : Hid (Below w.heap.size w w3) := HB2.out.trans (hb3.mono HB2.out.size)
    have HD3 : Hid (SReads w3 (.slice da dn dc) D) := HD2.out.below hb3
    have HT3 : Hid (TReads w3 (.slice (some ⟨g, 0, none⟩) n n) xs) := HT2.out.below hb3
    clear hb3 HX2 HB2 HD2 HT2
    cases hrb : rightBK D t 0 with
    | false =>
      have HEnd : Hid (∀ W, Below w.heap.size w W → G17 R wm L D t w (.returned (.tuple #[.agg (c9 itZ).toArray, .bool false, .int .i64 110])) W) := fun W hW => ⟨hW, .inr (.inl ⟨HZ.out, hrb, rfl⟩)⟩
      clear hrb
      go_wp2_with (refine stop_store 43 _ _ rfl ?_)
      refine Stop.of ?_
      refine wpList_storeN rfl _ _ _ rfl (w.heap.size + 1) 0 (c9 itZ) rfl rfl _ _ HX3.out (by simp) (by kernel_rfl) (by kernel_rfl) ?_
      intro V hV
      have hx := box9 hV rfl
      have f := fun i hi => (cell_row hx i hi).1
      have f0 := f 0 (by simp [c9])
      have f1 := f 1 (by simp [c9])
      have f2 := f 2 (by simp [c9])
      have f3 := f 3 (by simp [c9])
      have f4 := f 4 (by simp [c9])
      have f5 := f 5 (by simp [c9])
      have f6 := f 6 (by simp [c9])
      have f7 := f 7 (by simp [c9])
      have f8 := f 8 (by simp [c9])
      simp only [c9, itZ, List.getElem_toArray, List.getElem_cons_zero, List.getElem_cons_succ] at f0 f1 f2 f3 f4 f5 f6 f7 f8
      have HE1 : Hid (G17 R wm L D t w _ V) := HEnd.out V (HB3.out.trans (hV.b _ (Nat.le_succ _)))
      clear hV hx f
      go_wp2_with fail
      refine bodyPost_ret (v := .tuple #[.agg (c9 itZ).toArray, .bool false, .int .i64 110]) (by simp [results, Try.results15, go_sem, f0, f1, f2, f3, f4, f5, f6, f7, f8, c9, itZ]) rfl ?_
      exact HE1.out
    | true =>
      have HRB : Hid (rightBK D t 0 = true) := hrb
      clear hrb
      obtain ⟨w4, HW4⟩ := hid_ex (w3.alloc (.cells #[.slice none 0 0, .int .i64 0, .int .i64 0, .int .u64 0, .bool false, .int .i64 0, .int .u64 0, .int .i64 0, .int .i64 0] 43))
      have HI0 : Hid (GtI D t xs w3 0 itZ w4) := by
        rw [HW4.out]
        exact ⟨by rw [cz9]; exact heap_alloc_new _ _, .inl ⟨rfl, none, 0, rfl, fun _ => rfl⟩, rfl, Gd.zero, new_below _ _⟩
      have HX4 : Hid (w4.heap[w.heap.size + 1]? = some (.cells (c9 itZ).toArray 43)) := (HI0.out.b.block _ (Array.getElem?_eq_some_iff.1 HX3.out).1).trans HX3.out
      go_wp2_with fail
      rw [← HW4.out]
      clear HW4
      go_loopw [38] (fun i wr => ∃ (k : Nat) (r : It), k ≤ n ∧ i = .int .i64 (k : Int) ∧ Hid (GtI D t xs w3 k r wr)) (fun i _ => n - (intOf i).toNat)
      case atStart => exact ⟨0, itZ, by omega, rfl, HI0⟩
      case round =>
        clear HI0 HX4
        obtain ⟨k, r, hk, rfl, HC⟩ := hrel
        by_cases hlt : k < n
        · have hkx : k < xs.length := by rw [← Hn.out]; exact hlt
          obtain ⟨b, off, hbl, hcell, hsr⟩ : ∃ b off, b < w3.heap.size ∧ (g = b ∧ 0 = off ∧ ∀ i (hi : i < 9), w3.cell? ⟨b, off + k * 9 + i, none⟩ = some ((c9 xs[k])[i]'hi)) ∧ SReads w3 xs[k].v xs[k].D := by
            obtain ⟨_, _, hxv, _, _, hx3⟩ := HT3.out
            simp at hxv
            obtain ⟨rfl, _, rfl⟩ := hxv
            rcases hx3 with h0 | ⟨b, off, hab, hbl, hcell⟩
            · rw [h0] at hkx; simp at hkx
            · simp at hab
              exact ⟨b, off, hbl, ⟨hab.1, hab.2, (hcell k hkx).1⟩, (hcell k hkx).2⟩
          obtain ⟨rfl, rfl, hc9⟩ := hcell
          have hok := HOK.out xs[k] (List.getElem_mem hkx)
          have hrs := getF_snoc (D := D) (t := t) hkx
          rw [← HC.out.m] at hrs
          obtain ⟨X, HX⟩ := hid_ex xs[k]
          rw [← HX.out] at hc9 hsr hok hrs
          obtain ⟨xv, xD, xf, xz, xg⟩ := X
          obtain ⟨rv, rD, rf, rz, ra⟩ := r
          obtain ⟨va, vc, hv, hxl⟩ := hsr.form
          simp only at hv
          subst hv
          have hy : ∀ i (hi : i < 9), wr.cell? ⟨g, k * 9 + i, none⟩ = some ((c9 ⟨.slice va xD.length vc, xD, xf, xz, xg⟩)[i]'hi) := fun i hi => by
            have := hc9 i hi
            rw [Nat.zero_add] at this
            exact (HC.out.b.cell (p := ⟨g, k * 9 + i, none⟩) hbl).trans this
          have y0 := hy 0 (by decide)
          have y1 := hy 1 (by decide)
          have y2 := hy 2 (by decide)
          have y3 := hy 3 (by decide)
          have y4 := hy 4 (by decide)
          have y5 := hy 5 (by decide)
          have y6 := hy 6 (by decide)
          have y7 := hy 7 (by decide)
          have y8 := hy 8 (by decide)
          simp only [c9, List.getElem_cons_zero, List.getElem_cons_succ, Nat.add_zero] at y0 y1 y2 y3 y4 y5 y6 y7 y8
          obtain ⟨hf0, hf1⟩ := hok.f
          obtain ⟨hz0, hz1⟩ := hok.z
          have HGA : Hid (Gd xg) := hok.a
          simp only at hf0 hf1 hz0 hz1
          have hz1' : (xz : Int) ≤ 1099511627776 := by omega
          have HSX : Hid (SReads w3 (.slice va xD.length vc) xD) := hsr
          have HNO : Hid (¬ (xD = D ∧ xf ≤ t ∧ t < xf + xz) → ∀ W, Below wr.heap.size wr W → GtI D t xs w3 (k + 1) ⟨rv, rD, rf, rz, ra⟩ W) := fun hn W hW => ⟨(HC.out.below hW).c, HC.out.s, by rw [hrs]; exact (getS_no hn).symm, HC.out.g, (HC.out.below hW).b⟩
          have HYES : Hid ((xD = D ∧ xf ≤ t ∧ t < xf + xz) → (rz < xz → itR ⟨.slice va xD.length vc, xD, xf, xz, mrg ra xg⟩ = getF D t (List.take (k + 1) (List.map itR xs))) ∧ (¬ rz < xz → itR ⟨rv, rD, rf, rz, mrg ra xg⟩ = getF D t (List.take (k + 1) (List.map itR xs)))) := fun hn => ⟨fun hz => by rw [hrs]; exact (getS_big (r := itR ⟨rv, rD, rf, rz, ra⟩) (x := itR ⟨.slice va xD.length vc, xD, xf, xz, xg⟩) hn hz).symm, fun hz => by rw [hrs]; exact (getS_old (r := itR ⟨rv, rD, rf, rz, ra⟩) (x := itR ⟨.slice va xD.length vc, xD, xf, xz, xg⟩) hn hz).symm⟩
          obtain ⟨w5, HW5⟩ := hid_ex (wr.alloc (.cells #[.slice va xD.length vc, .int .i64 xf, .int .i64 (xz : Int), .int .u64 xg.c, .bool xg.o, .int .i64 (hi xg.s), .int .u64 (lo xg.s), .int .i64 xg.mn, .int .i64 xg.mx] 43))
          have hb5 : Below wr.heap.size wr w5 := by rw [HW5.out]; exact new_below _ _
          have HB5 : Hid (Below wr.heap.size wr w5) := hb5
          have HX5 : Hid (w5.heap[wr.heap.size]? = some (.cells #[.slice va xD.length vc, .int .i64 xf, .int .i64 (xz : Int), .int .u64 xg.c, .bool xg.o, .int .i64 (hi xg.s), .int .u64 (lo xg.s), .int .i64 xg.mn, .int .i64 xg.mx] 43)) := by rw [HW5.out]; exact heap_alloc_new _ _
          have HC5 : Hid (GtI D t xs w3 k ⟨rv, rD, rf, rz, ra⟩ w5) := HC.out.below hb5
          have HEQ : Hid (Calls Try.prog 34 #[.slice va xD.length vc, .slice da dn dc] w5 fun e w' => e = .returned (.bool (decide (xD = D))) ∧ Below w5.heap.size w5 w') := equalS_any _ _ _ _ _ (HSX.out.below HC5.out.b) (HD3.out.below HC5.out.b)
          have b0 := (cell_row HX5.out 0 (by simp)).1
          simp only [List.getElem_toArray, List.getElem_cons_zero] at b0
          obtain ⟨xl, Hxl⟩ := hid_ex xD.length
          clear hb5 hsr hok hrs hy hc9 hkx HX HC HT3
          by_cases e1 : xD = D
          · by_cases e2 : t < xf
            · replace HNO : Hid (∀ W, Below wr.heap.size wr W → GtI D t xs w3 (k + 1) ⟨rv, rD, rf, rz, ra⟩ W) := HNO.out (by omega)
              rw [decide_eq_true e1] at HEQ
              clear e1 HYES
              go_wp2_with fail
              rw [← HW5.out]
              clear HW5
              refine HEQ.out.mono ?_
              rintro e w6 ⟨rfl, hb6⟩
              have HN : Hid (GtI D t xs w3 (k + 1) ⟨rv, rD, rf, rz, ra⟩ w6) := HNO.out w6 (HB5.out.trans (hb6.mono HB5.out.size))
              have HX6 : Hid (w6.heap[wr.heap.size]? = some (.cells #[.slice va xD.length vc, .int .i64 xf, .int .i64 (xz : Int), .int .u64 xg.c, .bool xg.o, .int .i64 (hi xg.s), .int .u64 (lo xg.s), .int .i64 xg.mn, .int .i64 xg.mx] 43)) := (hb6.block _ (Array.getElem?_eq_some_iff.1 HX5.out).1).trans HX5.out
              have d1 := (cell_row HX6.out 1 (by simp)).1
              have d2 := (cell_row HX6.out 2 (by simp)).1
              simp only [List.getElem_toArray, List.getElem_cons_zero, List.getElem_cons_succ] at d1 d2
              clear hb6
              go_wp2_with fail
              go_roundw
              case rel => exact ⟨k + 1, _, by omega, by go_num, HN⟩
              case measure => simp [intOf]; omega
            · by_cases e3 : xf + xz ≤ t
              · replace HNO : Hid (∀ W, Below wr.heap.size wr W → GtI D t xs w3 (k + 1) ⟨rv, rD, rf, rz, ra⟩ W) := HNO.out (by omega)
                rw [decide_eq_true e1] at HEQ
                clear e1 HYES
                go_wp2_with fail
                rw [← HW5.out]
                clear HW5
                refine HEQ.out.mono ?_
                rintro e w6 ⟨rfl, hb6⟩
                have HN : Hid (GtI D t xs w3 (k + 1) ⟨rv, rD, rf, rz, ra⟩ w6) := HNO.out w6 (HB5.out.trans (hb6.mono HB5.out.size))
                have HX6 : Hid (w6.heap[wr.heap.size]? = some (.cells #[.slice va xD.length vc, .int .i64 xf, .int .i64 (xz : Int), .int .u64 xg.c, .bool xg.o, .int .i64 (hi xg.s), .int .u64 (lo xg.s), .int .i64 xg.mn, .int .i64 xg.mx] 43)) := (hb6.block _ (Array.getElem?_eq_some_iff.1 HX5.out).1).trans HX5.out
                have d1 := (cell_row HX6.out 1 (by simp)).1
                have d2 := (cell_row HX6.out 2 (by simp)).1
                simp only [List.getElem_toArray, List.getElem_cons_zero, List.getElem_cons_succ] at d1 d2
                clear hb6
                go_wp2_with fail
                go_roundw
                case rel => exact ⟨k + 1, _, by omega, by go_num, HN⟩
                case measure => simp [intOf]; omega
              · have HY := HYES.out ⟨e1, by omega, by omega⟩
                have HYH : Hid _ := HY
                rw [decide_eq_true e1] at HEQ
                clear e1 HYES HY HNO
                go_wp2_with fail
                rw [← HW5.out]
                clear HW5
                refine HEQ.out.mono ?_
                clear HEQ
                rintro e w6 ⟨rfl, hb6⟩
                have HX6 : Hid (w6.heap[wr.heap.size]? = some (.cells #[.slice va xD.length vc, .int .i64 xf, .int .i64 (xz : Int), .int .u64 xg.c, .bool xg.o, .int .i64 (hi xg.s), .int .u64 (lo xg.s), .int .i64 xg.mn, .int .i64 xg.mx] 43)) := (hb6.block _ (Array.getElem?_eq_some_iff.1 HX5.out).1).trans HX5.out
                have HC6 : Hid (GtI D t xs w3 k ⟨rv, rD, rf, rz, ra⟩ w6) := HC5.out.below hb6
                have d0 := (cell_row HX6.out 0 (by simp)).1
                have d1 := (cell_row HX6.out 1 (by simp)).1
                have d2 := (cell_row HX6.out 2 (by simp)).1
                have d3 := (cell_row HX6.out 3 (by simp)).1
                have d4 := (cell_row HX6.out 4 (by simp)).1
                have d5 := (cell_row HX6.out 5 (by simp)).1
                have d6 := (cell_row HX6.out 6 (by simp)).1
                have d7 := (cell_row HX6.out 7 (by simp)).1
                have d8 := (cell_row HX6.out 8 (by simp)).1
                simp only [List.getElem_toArray, List.getElem_cons_zero, List.getElem_cons_succ] at d0 d1 d2 d3 d4 d5 d6 d7 d8
                have q0 := (cell_row HC6.out.c 0 (by simp [c9])).1
                have q1 := (cell_row HC6.out.c 1 (by simp [c9])).1
                have q2 := (cell_row HC6.out.c 2 (by simp [c9])).1
                have q3 := (cell_row HC6.out.c 3 (by simp [c9])).1
                have q4 := (cell_row HC6.out.c 4 (by simp [c9])).1
                have q5 := (cell_row HC6.out.c 5 (by simp [c9])).1
                have q6 := (cell_row HC6.out.c 6 (by simp [c9])).1
                have q7 := (cell_row HC6.out.c 7 (by simp [c9])).1
                have q8 := (cell_row HC6.out.c 8 (by simp [c9])).1
                simp only [c9, List.getElem_toArray, List.getElem_cons_zero, List.getElem_cons_succ] at q0 q1 q2 q3 q4 q5 q6 q7 q8
                have hcb := HC6.out.g.1
                have hcx := HGA.out.1
                have HGM : Hid (Gd (mrg ra xg)) := HC6.out.g.mrg HGA.out
                clear hb6 HX5 HC5 HB5 b0
                go_wp2_with fail
                refine (merge_any ra xg hcb.1 hcb.2 hcx.1 hcx.2 _).mono ?_
                clear hcb hcx
                rintro e w7 ⟨rfl, hb7⟩
                obtain ⟨w8, HW8⟩ := hid_ex (w7.alloc (.cells #[.int .u64 (mrg ra xg).c, .bool (mrg ra xg).o, .int .i64 (hi (mrg ra xg).s), .int .u64 (lo (mrg ra xg).s), .int .i64 (mrg ra xg).mn, .int .i64 (mrg ra xg).mx] 40))
                have hb8 : Below w7.heap.size w7 w8 := by rw [HW8.out]; exact new_below _ _
                have hb68 : Below w6.heap.size w6 w8 := hb7.trans (hb8.mono hb7.size)
                have HX8 : Hid (w8.heap[wr.heap.size]? = some (.cells #[.slice va xD.length vc, .int .i64 xf, .int .i64 (xz : Int), .int .u64 xg.c, .bool xg.o, .int .i64 (hi xg.s), .int .u64 (lo xg.s), .int .i64 xg.mn, .int .i64 xg.mx] 43)) := (hb68.block _ (Array.getElem?_eq_some_iff.1 HX6.out).1).trans HX6.out
                have HC8 : Hid (GtI D t xs w3 k ⟨rv, rD, rf, rz, ra⟩ w8) := HC6.out.below hb68
                have HK8 : Hid (w8.heap[w7.heap.size]? = some (.cells #[.int .u64 (mrg ra xg).c, .bool (mrg ra xg).o, .int .i64 (hi (mrg ra xg).s), .int .u64 (lo (mrg ra xg).s), .int .i64 (mrg ra xg).mn, .int .i64 (mrg ra xg).mx] 40)) := by rw [HW8.out]; exact heap_alloc_new _ _
                have hk7 : w3.heap.size < w7.heap.size := by
                  have h1 := (Array.getElem?_eq_some_iff.1 HC6.out.c).1
                  have h2 := hb7.size
                  omega
                have HX7 : Hid (w7.heap[wr.heap.size]? = some (.cells #[.slice va xD.length vc, .int .i64 xf, .int .i64 (xz : Int), .int .u64 xg.c, .bool xg.o, .int .i64 (hi xg.s), .int .u64 (lo xg.s), .int .i64 xg.mn, .int .i64 xg.mx] 43)) := (hb7.block _ (Array.getElem?_eq_some_iff.1 HX6.out).1).trans HX6.out
                have HC7 : Hid (GtI D t xs w3 k ⟨rv, rD, rf, rz, ra⟩ w7) := HC6.out.below hb7
                clear d0 d1 d2 d3 d4 d5 d6 d7 d8 q0 q1 q2 q3 q4 q5 q6 q7 q8 hb7 hb8 hb68 HX6 HC6
                have d0 := (cell_row HX8.out 0 (by simp)).1
                have d1 := (cell_row HX8.out 1 (by simp)).1
                have d2 := (cell_row HX8.out 2 (by simp)).1
                have d3 := (cell_row HX8.out 3 (by simp)).1
                have d4 := (cell_row HX8.out 4 (by simp)).1
                have d5 := (cell_row HX8.out 5 (by simp)).1
                have d6 := (cell_row HX8.out 6 (by simp)).1
                have d7 := (cell_row HX8.out 7 (by simp)).1
                have d8 := (cell_row HX8.out 8 (by simp)).1
                simp only [List.getElem_toArray, List.getElem_cons_zero, List.getElem_cons_succ] at d0 d1 d2 d3 d4 d5 d6 d7 d8
                have q2 := (cell_row HC8.out.c 2 (by simp [c9])).1
                simp only [c9, List.getElem_toArray, List.getElem_cons_zero, List.getElem_cons_succ] at q2
                rw [HW8.out] at d0 d1 d2 d3 d4 d5 d6 d7 d8 q2
                by_cases e4 : rz < xz
                · have e4' : (rz : Int) < (xz : Int) := by omega
                  have HYY : Hid _ := HYH.out.1 e4
                  clear HYH e4
                  go_wp2_with (refine stop_store 43 _ _ rfl ?_)
                  rw [← HW8.out]
                  refine Stop.of ?_
                  refine wpList_storeN rfl _ _ _ rfl w3.heap.size 0 (c9 ⟨.slice va xD.length vc, xD, xf, xz, xg⟩) rfl rfl _ _ HC8.out.c (by simp [c9]) (by kernel_rfl) (by kernel_rfl) ?_
                  intro W1 hW1
                  have HF1 : Hid (W1.heap[w3.heap.size]? = some (.cells (c9 ⟨.slice va xD.length vc, xD, xf, xz, xg⟩).toArray 43)) := box9 hW1 rfl
                  have HK1 : Hid (W1.heap[w7.heap.size]? = some (.cells #[.int .u64 (mrg ra xg).c, .bool (mrg ra xg).o, .int .i64 (hi (mrg ra xg).s), .int .u64 (lo (mrg ra xg).s), .int .i64 (mrg ra xg).mn, .int .i64 (mrg ra xg).mx] 40)) := (hW1.o _ (by omega)).trans HK8.out
                  have HBW : Hid (Below w3.heap.size w3 W1) := HC8.out.b.trans (hW1.b _ (Nat.le_refl _))
                  have m0 := (cell_row HK1.out 0 (by simp)).1
                  have m1 := (cell_row HK1.out 1 (by simp)).1
                  have m2 := (cell_row HK1.out 2 (by simp)).1
                  have m3 := (cell_row HK1.out 3 (by simp)).1
                  have m4 := (cell_row HK1.out 4 (by simp)).1
                  have m5 := (cell_row HK1.out 5 (by simp)).1
                  simp only [List.getElem_toArray, List.getElem_cons_zero, List.getElem_cons_succ] at m0 m1 m2 m3 m4 m5
                  clear hW1 d0 d1 d2 d3 d4 d5 d6 d7 d8 q2
                  go_wp2_with (refine stop_store 40 (.tmp 74) _ rfl ?_)
                  refine Stop.of ?_
                  refine wpList_storeN rfl _ _ _ rfl w3.heap.size 3 (ag6 (mrg ra xg)) rfl rfl _ _ HF1.out (by simp [c9, ag6]) (by kernel_rfl) (by kernel_rfl) ?_
                  intro W2 hW2
                  have HN : Hid (GtI D t xs w3 (k + 1) ⟨.slice va xD.length vc, xD, xf, xz, mrg ra xg⟩ W2) := ⟨box_agg hW2, HSX.out, HYY.out, HGM.out, HBW.out.trans (hW2.b _ (Nat.le_refl _))⟩
                  clear hW2
                  go_wp2_with fail
                  go_roundw
                  case rel => exact ⟨k + 1, _, by omega, by go_num, HN⟩
                  case measure => simp [intOf]; omega
                · have e4' : ¬ (rz : Int) < (xz : Int) := by omega
                  have HYY : Hid _ := HYH.out.2 e4
                  have HSV : Hid (SReads w3 rv rD) := HC8.out.s
                  clear HYH e4
                  have m0 := (cell_row HK8.out 0 (by simp)).1
                  have m1 := (cell_row HK8.out 1 (by simp)).1
                  have m2 := (cell_row HK8.out 2 (by simp)).1
                  have m3 := (cell_row HK8.out 3 (by simp)).1
                  have m4 := (cell_row HK8.out 4 (by simp)).1
                  have m5 := (cell_row HK8.out 5 (by simp)).1
                  simp only [List.getElem_toArray, List.getElem_cons_zero, List.getElem_cons_succ] at m0 m1 m2 m3 m4 m5
                  rw [HW8.out] at m0 m1 m2 m3 m4 m5
                  go_wp2_with (refine stop_store 40 (.tmp 74) _ rfl ?_)
                  rw [← HW8.out]
                  refine Stop.of ?_
                  refine wpList_storeN rfl _ _ _ rfl w3.heap.size 3 (ag6 (mrg ra xg)) rfl rfl _ _ HC8.out.c (by simp [c9, ag6]) (by kernel_rfl) (by kernel_rfl) ?_
                  intro W2 hW2
                  have HN : Hid (GtI D t xs w3 (k + 1) ⟨rv, rD, rf, rz, mrg ra xg⟩ W2) := ⟨box_agg hW2, HSV.out, HYY.out, HGM.out, HC8.out.b.trans (hW2.b _ (Nat.le_refl _))⟩
                  clear hW2
                  go_wp2_with fail
                  go_roundw
                  case rel => exact ⟨k + 1, _, by omega, by go_num, HN⟩
                  case measure => simp [intOf]; omega
          · replace HNO : Hid (∀ W, Below wr.heap.size wr W → GtI D t xs w3 (k + 1) ⟨rv, rD, rf, rz, ra⟩ W) := HNO.out (fun h => e1 h.1)
            rw [decide_eq_false e1] at HEQ
            clear e1 HYES
            go_wp2_with fail
            rw [← HW5.out]
            clear HW5
            refine HEQ.out.mono ?_
            rintro e w6 ⟨rfl, hb6⟩
            have HN : Hid (GtI D t xs w3 (k + 1) ⟨rv, rD, rf, rz, ra⟩ w6) := HNO.out w6 (HB5.out.trans (hb6.mono HB5.out.size))
            clear hb6
            go_wp2_with fail
            go_roundw
            case rel => exact ⟨k + 1, _, by omega, by go_num, HN⟩
            case measure => simp [intOf]; omega
        · obtain rfl : k = n := by omega
          obtain ⟨rv, rD, rf, rz, ra⟩ := r
          obtain ⟨va, vc, hrv, _⟩ := HC.out.s.form
          simp only at hrv
          subst hrv
          have HXr : Hid (wr.heap[w.heap.size + 1]? = some (.cells (c9 itZ).toArray 43)) := (HC.out.b.block _ (Array.getElem?_eq_some_iff.1 HX3.out).1).trans HX3.out
          have HBr : Hid (Below w.heap.size w wr) := HB3.out.trans (HC.out.b.mono HB3.out.size)
          have HSr : Hid (SReads wr (.slice va rD.length vc) rD) := HC.out.s.below HC.out.b
          have HMr : Hid (itR ⟨(.slice va rD.length vc), rD, rf, rz, ra⟩ = getF D t (rowsE R wm L)) := by
            have h1 := HC.out.m
            rw [List.take_of_length_le (by rw [List.length_map, Hn.out]; exact Nat.le_refl _), HM.out] at h1
            exact h1
          have d := fun i hi => (cell_row HC.out.c i hi).1
          have d0 := d 0 (by simp [c9])
          have d1 := d 1 (by simp [c9])
          have d2 := d 2 (by simp [c9])
          have d3 := d 3 (by simp [c9])
          have d4 := d 4 (by simp [c9])
          have d5 := d 5 (by simp [c9])
          have d6 := d 6 (by simp [c9])
          have d7 := d 7 (by simp [c9])
          have d8 := d 8 (by simp [c9])
          simp only [c9, List.getElem_toArray, List.getElem_cons_zero, List.getElem_cons_succ] at d0 d1 d2 d3 d4 d5 d6 d7 d8
          have hlo : w.heap.size + 1 < w3.heap.size := (Array.getElem?_eq_some_iff.1 HX3.out).1
          clear d HC HM Hn HT3 HD3 HOK HX3 HB3
          go_wp2_with fail
          refine wp_region_noPanic ?_
          refine wp_region_S 4 (fun w' => w'.cell? ⟨w3.heap.size, 0, none⟩ = some (.slice va rD.length vc) ∧ w'.cell? ⟨w3.heap.size, 1, none⟩ = some (.int .i64 rf) ∧ w'.cell? ⟨w3.heap.size, 2, none⟩ = some (.int .i64 (rz : Int)) ∧ w'.cell? ⟨w3.heap.size, 3, none⟩ = some (.int .u64 ra.c) ∧ w'.cell? ⟨w3.heap.size, 4, none⟩ = some (.bool ra.o) ∧ w'.cell? ⟨w3.heap.size, 5, none⟩ = some (.int .i64 (hi ra.s)) ∧ w'.cell? ⟨w3.heap.size, 6, none⟩ = some (.int .u64 (lo ra.s)) ∧ w'.cell? ⟨w3.heap.size, 7, none⟩ = some (.int .i64 ra.mn) ∧ w'.cell? ⟨w3.heap.size, 8, none⟩ = some (.int .i64 ra.mx)) (fun _ => True) (by kernel_rfl) ?_ ?_ (fun hHeld => ?_)
          · exact ⟨d0, d1, d2, d3, d4, d5, d6, d7, d8⟩
          · trivial
          refine wpAnyS_take (i := 0) (v := .agg #[(.slice va rD.length vc), .int .i64 rf, .int .i64 (rz : Int), .int .u64 ra.c, .bool ra.o, .int .i64 (hi ra.s), .int .u64 (lo ra.s), .int .i64 ra.mn, .int .i64 ra.mx]) _ rfl (by kernel_rfl) (by kernel_rfl) (by kernel_rfl) (by kernel_rfl) (by kernel_rfl) rfl (fun _ _ _ h => h) (Or.inl ⟨by rfl, ?_⟩) hHeld (fun hHeld => ?_)
          · (intro w1 hSw; have hSw := hSw.1; (try dsimp only at hSw); go_simp)
          simp only [List.getElem_toArray, List.getElem_cons_zero, Act.put, List.setIfInBounds_toArray, List.set_cons_zero, List.set_cons_succ]
          refine wpAnyS_take (i := 1) (v := .pointer (some ⟨w3.heap.size, 2, none⟩)) _ rfl (by kernel_rfl) (by kernel_rfl) (by kernel_rfl) (by kernel_rfl) (by kernel_rfl) rfl (fun _ _ _ h => h) (Or.inl ⟨by rfl, ?_⟩) hHeld (fun hHeld => ?_)
          · (intro w1 hSw; have hSw := hSw.1; (try dsimp only at hSw); go_simp)
          simp only [List.getElem_toArray, List.getElem_cons_succ, List.getElem_cons_zero, Act.put, List.setIfInBounds_toArray, List.set_cons_zero, List.set_cons_succ]
          refine wpAnyS_take (i := 2) (v := .int .i64 (rz : Int)) _ rfl (by kernel_rfl) (by kernel_rfl) (by kernel_rfl) (by kernel_rfl) (by kernel_rfl) rfl (fun _ _ _ h => h) (Or.inl ⟨by rfl, ?_⟩) hHeld (fun hHeld => ?_)
          · (intro w1 hSw; have hSw := hSw.1; (try dsimp only at hSw); go_simp)
          simp only [List.getElem_toArray, List.getElem_cons_succ, List.getElem_cons_zero, Act.put, List.setIfInBounds_toArray, List.set_cons_zero, List.set_cons_succ]
          refine wpAnyS_take (i := 3) (v := .bool (decide (0 < (rz : Int)))) _ rfl (by kernel_rfl) (by kernel_rfl) (by kernel_rfl) (by kernel_rfl) (by kernel_rfl) rfl (fun _ _ _ h => h) (Or.inl ⟨by rfl, ?_⟩) hHeld (fun hHeld => ?_)
          · (intro w1 hSw; have hSw := hSw.1; (try dsimp only at hSw); go_simp)
          simp only [List.getElem_toArray, List.getElem_cons_succ, List.getElem_cons_zero, Act.put, List.setIfInBounds_toArray, List.set_cons_zero, List.set_cons_succ]
          refine wpAnyS_ready (i := 4) (by kernel_rfl) rfl (fun K hK => ?_)
          rw [if_pos (by rfl)]
          refine wp_storeN _ _ _ rfl (w.heap.size + 1) 0 (c9 ⟨(.slice va rD.length vc), rD, rf, rz, ra⟩) rfl rfl _ _ HXr.out (by simp [c9]) (by kernel_rfl) (by kernel_rfl) (fun W hW => ?_)
          have hq : ∀ i, W.cell? ⟨w3.heap.size, i, none⟩ = wr.cell? ⟨w3.heap.size, i, none⟩ := fun i => World.cell?_of_block (hW.o w3.heap.size (by omega))
          refine hK.out _ _ ⟨?_, fun hno => absurd hno (by decide)⟩ (fun hHeld => ?_)
          · exact ⟨(hq 0).trans d0, (hq 1).trans d1, (hq 2).trans d2, (hq 3).trans d3, (hq 4).trans d4, (hq 5).trans d5, (hq 6).trans d6, (hq 7).trans d7, (hq 8).trans d8⟩
          clear hK K
          refine wpAnyS_take (i := 5) (v := .bool (decide (0 < (rz : Int)))) _ rfl (by kernel_rfl) (by kernel_rfl) (by kernel_rfl) (by kernel_rfl) (by kernel_rfl) rfl (fun _ _ _ h => h) (Or.inl ⟨by rfl, ?_⟩) hHeld (fun hHeld => ?_)
          · (intro w1 hSw; have hSw := hSw.1; (try dsimp only at hSw); go_simp)
          simp only [List.getElem_toArray, List.getElem_cons_succ, List.getElem_cons_zero, Act.put, List.setIfInBounds_toArray, List.set_cons_zero, List.set_cons_succ]
          refine wpAnyS_take (i := 6) (v := .int .i64 0) _ rfl (by kernel_rfl) (by kernel_rfl) (by kernel_rfl) (by kernel_rfl) (by kernel_rfl) rfl (fun _ _ _ h => h) (Or.inl ⟨by rfl, ?_⟩) hHeld (fun hHeld => ?_)
          · (intro w1 hSw; have hSw := hSw.1; (try dsimp only at hSw); go_simp)
          simp only [List.getElem_toArray, List.getElem_cons_succ, List.getElem_cons_zero, Act.put, List.setIfInBounds_toArray, List.set_cons_zero, List.set_cons_succ]
          refine wpAnyS_done (by kernel_rfl) ?_ _
          refine NoPanic.normal ?_
          have hx := box9 hW rfl
          have f := fun i hi => (cell_row hx i hi).1
          have f0 := f 0 (by simp [c9])
          have f1 := f 1 (by simp [c9])
          have f2 := f 2 (by simp [c9])
          have f3 := f 3 (by simp [c9])
          have f4 := f 4 (by simp [c9])
          have f5 := f 5 (by simp [c9])
          have f6 := f 6 (by simp [c9])
          have f7 := f 7 (by simp [c9])
          have f8 := f 8 (by simp [c9])
          simp only [c9, List.getElem_toArray, List.getElem_cons_zero, List.getElem_cons_succ] at f0 f1 f2 f3 f4 f5 f6 f7 f8
          have hdz : decide ((0 : Int) < (rz : Int)) = decide (0 < rz) := by simp
          have HE1 : Hid (G17 R wm L D t w (.returned (.tuple #[.agg (c9 ⟨(.slice va rD.length vc), rD, rf, rz, ra⟩).toArray, .bool (decide ((0 : Int) < (rz : Int))), .int .i64 0])) W) := by
            rw [hdz]
            exact ⟨(HBr.out.drew).trans (hW.b _ (Nat.le_succ _)), .inr (.inr ⟨HZ.out, HRB.out, ⟨(.slice va rD.length vc), rD, rf, rz, ra⟩, rfl, sreads_box (HSr.out.below (Below.refl _ _).drew) HXr.out hW, HMr.out⟩)⟩
          clear hW hx f hq hdz d0 d1 d2 d3 d4 d5 d6 d7 d8
          go_wp2_with fail
          refine bodyPost_ret (v := .tuple #[.agg (c9 ⟨(.slice va rD.length vc), rD, rf, rz, ra⟩).toArray, .bool (decide ((0 : Int) < (rz : Int))), .int .i64 0]) (by simp [results, Try.results15, go_sem, f0, f1, f2, f3, f4, f5, f6, f7, f8, c9]) rfl ?_
          exact HE1.out
end Go.Proofs.Ytoenijflijfogaa

/- slices.Sort of texts at this program (written by mkask.py, for one seat). -/
namespace Go.Proofs.Ytoenijflijfogaa
open Go.Shelf Go.Sort Go.RowKit Go.Maps

def akSort_ren : Go.Shelf.Ren := ⟨fun | 6 => 39 | 8 => 57 | 9 => 56 | 19 => 80 | 20 => 81 | 21 => 71 | 22 => 72 | 23 => 73 | 24 => 74 | 25 => 75 | 26 => 76 | 27 => 77 | 28 => 78 | 29 => 79 | 36 => 92 | 31 => 93 | 32 => 94 | 37 => 95 | 38 => 96 | 39 => 97 | 41 => 101 | n => n, fun | 27 => 26 | 29 => 9 | 3 => 3 | 32 => 110 | 26 => 26 | 0 => 0 | 44 => 136 | 46 => 36 | 4 => 4 | 36 => 128 | 35 => 127 | 41 => 133 | 5 => 5 | 9 => 9 | 53 => 147 | 57 => 151 | 63 => 156 | 64 => 157 | n => n, fun | n => n⟩
theorem akSort : Go.Proofs.SlLaysM.n6 Try.prog akSort_ren := {
  mixed := by kernel_rfl
  f6 := ⟨Try.f39.name, by decide, Try.func39.trans (congrArg some (by kernel_rfl))⟩
  f8 := Try.func57.trans (congrArg some (by kernel_rfl))
  f9 := ⟨Try.f56.name, by decide, Try.func56.trans (congrArg some (by kernel_rfl))⟩
  f19 := Try.func80.trans (congrArg some (by kernel_rfl))
  f20 := Try.func81.trans (congrArg some (by kernel_rfl))
  f21 := ⟨Try.f71.name, by decide, Try.func71.trans (congrArg some (by kernel_rfl))⟩
  f22 := ⟨Try.f72.name, by decide, Try.func72.trans (congrArg some (by kernel_rfl))⟩
  f23 := ⟨Try.f73.name, by decide, Try.func73.trans (congrArg some (by kernel_rfl))⟩
  f24 := ⟨Try.f74.name, by decide, Try.func74.trans (congrArg some (by kernel_rfl))⟩
  f25 := ⟨Try.f75.name, by decide, Try.func75.trans (congrArg some (by kernel_rfl))⟩
  f26 := ⟨Try.f76.name, by decide, Try.func76.trans (congrArg some (by kernel_rfl))⟩
  f27 := ⟨Try.f77.name, by decide, Try.func77.trans (congrArg some (by kernel_rfl))⟩
  f28 := ⟨Try.f78.name, by decide, Try.func78.trans (congrArg some (by kernel_rfl))⟩
  f29 := ⟨Try.f79.name, by decide, Try.func79.trans (congrArg some (by kernel_rfl))⟩
  f31 := Try.func93.trans (congrArg some (by kernel_rfl))
  f32 := Try.func94.trans (congrArg some (by kernel_rfl))
  f36 := ⟨Try.f92.name, by decide, Try.func92.trans (congrArg some (by kernel_rfl))⟩
  f37 := ⟨Try.f95.name, by decide, Try.func95.trans (congrArg some (by kernel_rfl))⟩
  f38 := ⟨Try.f96.name, by decide, Try.func96.trans (congrArg some (by kernel_rfl))⟩
  f39 := ⟨Try.f97.name, by decide, Try.func97.trans (congrArg some (by kernel_rfl))⟩
  f41 := ⟨Try.f101.name, by decide, Try.func101.trans (congrArg some (by kernel_rfl))⟩
  t0 := Try.underlying0
  a0 := Try.isAgg0
  z0 := Try.sizeOf0
  v0 := Try.zeroValue0
  t3 := Try.underlying3
  a3 := Try.isAgg3
  z3 := Try.sizeOf3
  v3 := Try.zeroValue3
  t4 := Try.underlying4
  a4 := Try.isAgg4
  z4 := Try.sizeOf4
  v4 := Try.zeroValue4
  t5 := Try.underlying5
  a5 := Try.isAgg5
  z5 := Try.sizeOf5
  v5 := Try.zeroValue5
  t9 := Try.underlying9
  a9 := Try.isAgg9
  z9 := Try.sizeOf9
  v9 := Try.zeroValue9
  t26 := Try.underlying26
  a26 := Try.isAgg26
  z26 := Try.sizeOf26
  v26 := Try.zeroValue26
  t27 := Try.underlying26
  a27 := Try.isAgg26
  z27 := Try.sizeOf26
  v27 := Try.zeroValue26
  t29 := Try.underlying9
  a29 := Try.isAgg9
  z29 := Try.sizeOf9
  v29 := Try.zeroValue9
  t32 := Try.underlying110
  a32 := Try.isAgg110
  z32 := Try.sizeOf110
  v32 := Try.zeroValue110
  t35 := Try.underlying127
  a35 := Try.isAgg127
  z35 := Try.sizeOf127
  v35 := Try.zeroValue127
  t36 := Try.underlying128
  a36 := Try.isAgg128
  z36 := Try.sizeOf128
  v36 := Try.zeroValue128
  t41 := Try.underlying133
  a41 := Try.isAgg133
  z41 := Try.sizeOf133
  v41 := Try.zeroValue133
  t44 := Try.underlying136
  a44 := Try.isAgg136
  z44 := Try.sizeOf136
  v44 := Try.zeroValue136
  t46 := Try.underlying36
  a46 := Try.isAgg36
  z46 := Try.sizeOf36
  v46 := Try.zeroValue36
  t53 := Try.underlying147
  a53 := Try.isAgg147
  z53 := Try.sizeOf147
  v53 := Try.zeroValue147
  t57 := Try.underlying151
  a57 := Try.isAgg151
  z57 := Try.sizeOf151
  v57 := Try.zeroValue151
  t63 := Try.underlying156
  a63 := Try.isAgg156
  z63 := Try.sizeOf156
  v63 := Try.zeroValue156
  t64 := Try.underlying157
  a64 := Try.isAgg157
  z64 := Try.sizeOf157
  v64 := Try.zeroValue157 }
/-- The library's sort, of texts of one's own. -/
theorem sortS_any (v : Value) (ss : List (List UInt8)) (base : Nat) (w : World) (hO : w.ownsRow base 9 1 v ss.length (ss.map encStr)) (hb : base ≤ w.heap.size) (hl : ss.length ≤ 1000000) :
    Calls Try.prog 39 #[v] w fun e w' => e = .returned (.tuple #[]) ∧ w'.ownsRow base 9 1 v ss.length ((ss.mergeSort fun x y => decide (x ≤ y)).map encStr) ∧ Below base w w' := by
  have hO2 := hO
  rcases hO with ⟨h1, ⟨rfl, h2⟩ | ⟨g, cap, cur, rfl, hg, hw, hc, hm, hs, ht⟩⟩
  · refine (AnyM.slices_Sort_string_none akSort none 0 w).mono ?_
    rintro e w' ⟨rfl, rfl⟩
    have : ss = [] := List.length_eq_zero_iff.1 h2
    subst this
    exact ⟨rfl, by simpa using hO2, Below.refl _ _⟩
  · refine (AnyM.slices_Sort_string akSort g 0 cap ss w (holds_of_block hw (by rw [Nat.mul_one] at ht; exact ht)) (Array.getElem?_eq_some_iff.1 hw).1 (by omega)).mono ?_
    rintro e w' ⟨rfl, n, os, rfl⟩
    exact ⟨rfl, ownsRow_sorted (by simp) hg hw hc hm hs, (Below.refl _ _).grown (grownBy_sorted _) hb (fun j hj => by cases hj; exact hg)⟩
end Go.Proofs.Ytoenijflijfogaa
