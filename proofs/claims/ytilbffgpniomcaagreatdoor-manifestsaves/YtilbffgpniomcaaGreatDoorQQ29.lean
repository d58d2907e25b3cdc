/- MY6x F5 V7 R5 RS, joined. -/
import Derived.Test.YtilbffgpniomcaaGreatDoorQQ19
import Derived.Test.YtilbffgpniomcaaGreatDoorQQ20
import Derived.Test.YtilbffgpniomcaaGreatDoorQQ28
import Derived.BigRegion
import Derived.Test.YtilbffgpniomcaaGreatDoorRows
import Derived.WalkKit
import Derived.Deep.RegionHeld3
/- The reference of layer 13: Read. -/
namespace Go.Proofs.YtilbffgpniomcaaGreatDoor
open Go.RowKit Go.Shelf

/-- How far the numbers have been read. -/
def RdK (b : List UInt8) (k at' : Nat) (l : List Int) : Prop := rdA 300 b = match rdA (300 - k) (b.drop at') with
  | none => none
  | some (l', r) => some (l ++ l', r)
theorem RdK.start (b : List UInt8) : RdK b 0 0 [] := by
  unfold RdK
  rw [List.drop_zero, Nat.sub_zero]
  cases rdA 300 b with
  | none => rfl
  | some q => rfl
theorem RdK.bad {b : List UInt8} {k a : Nat} {l : List Int} (h : RdK b k a l) (hk : k < 300) (ha : a < b.length) (hn : nxN big (b.drop a) = none) : edR b = none := by
  rw [← refR_edR]
  unfold refR
  have hne : b.drop a ≠ [] := by intro e; have := congrArg List.length e; rw [List.length_drop] at this; simp at this; omega
  have e : rdA (300 - k) (b.drop a) = none := by
    rw [show 300 - k = (299 - k) + 1 by omega, rdA, if_neg hne, hn]
  unfold RdK at h
  rw [e] at h
  rw [h]
theorem RdK.step {b : List UInt8} {k a : Nat} {l : List Int} (h : RdK b k a l) (hk : k < 300) (ha : a < b.length) {v : Int} {u : Nat} (hn : nxN big (b.drop a) = some (v, (b.drop a).drop u)) : RdK b (k + 1) (a + u) (l ++ [v]) := by
  have hne : b.drop a ≠ [] := by intro e; have := congrArg List.length e; rw [List.length_drop] at this; simp at this; omega
  unfold RdK at h ⊢
  rw [h, show 300 - k = (300 - (k + 1)) + 1 by omega, rdA, if_neg hne, hn]
  simp only
  rw [List.drop_drop]
  cases rdA (300 - (k + 1)) (b.drop (a + u)) with
  | none => rfl
  | some q => simp
theorem RdK.fin {b : List UInt8} {k a : Nat} {l : List Int} (h : RdK b k a l) (hk : k ≤ 300) (he : ¬ (a < b.length ∧ k < 300)) : rdA 300 b = some (l, b.drop a) := by
  unfold RdK at h
  rw [h]
  by_cases h3 : k = 300
  · subst h3
    rw [Nat.sub_self, rdA]; simp
  · have hd : b.drop a = [] := List.drop_eq_nil_of_le (by omega)
    rw [hd, show 300 - k = (299 - k) + 1 by omega, rdA, if_pos rfl]; simp
theorem edR_of {b : List UInt8} {l : List Int} {r : List UInt8} (h : rdA 300 b = some (l, r)) : edR b = if r = [] then edL l else none := by
  rw [← refR_edR]; unfold refR; rw [h]
theorem nx_of {b : List UInt8} {V U : Nat} {E : Int} (h : rsF b 0 0 = (V, U, E)) : nxN big b = if E ≠ 0 ∨ 9223372036854775807 < V then none else some ((V : Int), b.drop U) := by
  unfold nxN big
  rw [h]
theorem RdP.no {b : List UInt8} (h : edR b = none) {w w' : World} (hb : Below w.heap.size w w') : RdP w w' (.returned (.tuple #[.agg #[.slice none 0 0, .slice none 0 0, .int .i64 0, .int .i64 0, .int .i64 0], .int .i64 100])) b := by
  refine ⟨.slice none 0 0, .slice none 0 0, by rw [h]; rfl, ?_, hb⟩
  rw [h]
  exact ⟨jr_nil _, (ur_nil _).r⟩
set_option maxRecDepth 100000 in
set_option maxHeartbeats 8000000 in
theorem refRead13_any (bv : Value) (b : List UInt8) (w : World) (h : Reads w bv b) (hbl : b.length ≤ 2000) :
    Calls Tryz.prog 41 #[bv] w fun e w' => RdP w w' e b := by
  obtain ⟨ba, bc, rfl, hm⟩ := h.form
  have HR : Hid (Reads w (.slice ba b.length bc) b) := h
  clear h hm
  obtain ⟨N, HN⟩ : ∃ n, Hid (b.length = n) := ⟨_, rfl⟩
  rw [HN.out] at HR hbl ⊢
  obtain ⟨w0, HW0⟩ := hid_ex (w.alloc (.cells #[.slice none 0 0, .slice none 0 0, .int .i64 0, .int .i64 0, .int .i64 0] 56))
  have HB0 : Hid (Below w.heap.size w w0) := by rw [HW0.out]; exact (Below.refl _ _).alloc (Nat.le_refl _) _
  have HZ0 : Hid (w0.heap[w.heap.size]? = some (.cells #[.slice none 0 0, .slice none 0 0, .int .i64 0, .int .i64 0, .int .i64 0] 56)) := by unfold Hid; rw [HW0.out]; exact heap_alloc_new _ _
  have hz0 : w0.heap.size = w.heap.size + 1 := by rw [HW0.out]; simp
  go_enter Tryz.func41, Tryz.ntmps41
  go_wp2_with fail
  rw [← HW0.out]
  clear HW0
  go_loopw [4, 5] (fun lv av wr => ∃ (k a : Nat) (l : List Int), av = .int .i64 (a : Int) ∧ a ≤ N ∧ k ≤ 300 ∧ Hid (l.length = k) ∧ Hid (RdK b k a l) ∧ w0.heap.size ≤ wr.heap.size ∧ Hid (IG w0.heap.size w0 wr lv l)) (fun _ av _ => N - (intOf av).toNat)
  case atStart => exact ⟨0, 0, [], rfl, by omega, by omega, rfl, RdK.start b, Nat.le_refl _, ⟨⟨rfl, .inl ⟨rfl, rfl⟩⟩, fun k e => by simp [Value.ownBlock] at e, Below.refl _ _⟩⟩
  case round =>
    obtain ⟨k, a, l, rfl, ha, hk, HL, HK, hsz, HG⟩ := hrel
    have HBw : Hid (Below w.heap.size w wr) := HB0.out.trans (HG.out.b.mono (by omega))
    have HZr : Hid (wr.heap[w.heap.size]? = some (.cells #[.slice none 0 0, .slice none 0 0, .int .i64 0, .int .i64 0, .int .i64 0] 56)) := (HG.out.b.block _ (by omega)).trans HZ0.out
    obtain ⟨la, lc, hlv, -⟩ := GOwn.form HG.out.o
    rw [HL.out] at hlv
    subst hlv
    by_cases hin : a < N ∧ k < 300
    · have ha' : (a : Int) < (N : Int) := by omega
      have hk' : (k : Int) < 300 := by omega
      obtain ⟨sa, sc, hsl, hrd⟩ := sl_from (show Reads w (.slice ba b.length bc) b by rw [HN.out]; exact HR.out) (c := a) (by rw [HN.out]; exact ha)
      rw [HN.out] at hsl hrd
      have HRd : Hid (Reads w (.slice sa (N - a) sc) (b.drop a)) := hrd
      obtain ⟨V, U, E, HT⟩ : ∃ V U E, Hid (rsF (b.drop a) 0 0 = (V, U, E)) := ⟨_, _, _, rfl⟩
      have HC : Hid (Calls Tryz.prog 42 #[.slice sa (N - a) sc] wr fun e w' => e = .returned (.tuple #[.int .u64 V, .int .i64 U, .int .i64 E]) ∧ Below wr.heap.size wr w') := by
        have := refReadShort_any _ (b.drop a) wr (HRd.out.below HBw.out)
        rw [HT.out] at this
        exact this
      have HNx := nx_of HT.out
      have HNX : Hid (nxN big (b.drop a) = if E ≠ 0 ∨ 9223372036854775807 < V then none else some ((V : Int), (b.drop a).drop U)) := HNx
      have HFt := rs_fits (b.drop a)
      rw [HT.out] at HFt
      have HFT : Hid (E = 0 → U ≤ (b.drop a).length ∧ V < 18446744073709551616) := HFt
      have haN : a < b.length := by rw [HN.out]; exact hin.1
      have HAN : Hid (a < b.length) := haN
      clear hrd HNx HFt haN
      go_wp2_with fail
      refine HC.out.mono ?_
      rintro e w2 ⟨rfl, hb2⟩
      have HB2 : Hid (Below w.heap.size w w2) := HBw.out.trans (hb2.mono HBw.out.size)
      have hwl : w.heap.size < wr.heap.size := (Array.getElem?_eq_some_iff.1 HZr.out).1
      have HZ2 : Hid (w2.heap[w.heap.size]? = some (.cells #[.slice none 0 0, .slice none 0 0, .int .i64 0, .int .i64 0, .int .i64 0] 56)) := (hb2.block _ hwl).trans HZr.out
      have HG2 : Hid (IG w0.heap.size w0 w2 (.slice la k lc) l) := HG.out.below hb2 hsz
      have hs2 : w0.heap.size ≤ w2.heap.size := by have := hb2.size; omega
      clear hb2 HC HG
      by_cases hE : E = 0
      · subst hE
        by_cases hV : 9223372036854775807 < V
        · have hV' : (9223372036854775807 : Int) < (V : Int) := by omega
          have HNo : Hid (edR b = none) := HK.out.bad hin.2 HAN.out (by rw [HNX.out, if_pos (.inr hV)])
          go_wp2_with (refine stop_store 56 _ _ rfl ?_)
          refine Stop.of ?_
          refine wpList_storeN rfl _ _ _ rfl w.heap.size 0 [.slice none 0 0, .slice none 0 0, .int .i64 0, .int .i64 0, .int .i64 0] rfl rfl _ _ HZ2.out (by simp) (by kernel_rfl) (by kernel_rfl) ?_
          intro W9 hW9
          have HK9 := stW_all hW9 (by simp)
          have HB9 : Hid (Below w.heap.size w W9) := HB2.out.trans (hW9.b _ (Nat.le_refl _))
          clear hW9
          go_wp2_with fail
          refine bodyPost_ret (results_c13 rfl _ _ w.heap.size _ rfl (run_loadVar_row _ w.heap.size _ _ _ (0, 0) _ HK9 Tryz.underlying56 rfl (by kernel_rfl))) rfl ?_
          exact RdP.no HNo.out HB9.out
        · have hV' : ¬ (9223372036854775807 : Int) < (V : Int) := by omega
          obtain ⟨hU, hV2⟩ := HFT.out rfl
          have hnx : nxN big (b.drop a) = some ((V : Int), (b.drop a).drop U) := by rw [HNX.out, if_neg (by simp; omega)]
          have hU1 : 1 ≤ U := by
            have := nx_len hnx
            rw [List.length_drop] at this
            omega
          rw [List.length_drop, HN.out] at hU
          have HK2 : Hid (RdK b (k + 1) (a + U) (l ++ [(V : Int)])) := HK.out.step hin.2 HAN.out hnx
          obtain ⟨v3, w3, hrun, hg3, hs3⟩ := HG2.out.appN hs2 [(V : Int)] (by rw [HL.out]; simp; omega)
          have HG3 : Hid (IG w0.heap.size w0 w3 v3 (l ++ [(V : Int)])) := hg3
          have HL3 : Hid ((l ++ [(V : Int)]).length = k + 1) := by unfold Hid; rw [List.length_append, HL.out]; rfl
          simp only [ji, List.map_cons, List.map_nil, List.length_cons, List.length_nil, Nat.reduceAdd] at hrun
          have hwr : IntKind.i64.wrap (V : Int) = (V : Int) := by simp [IntKind.wrap, IntKind.bits, IntKind.signed]; omega
          have hwa : IntKind.i64.wrap ((a : Int) + (U : Int)) = (a : Int) + (U : Int) := by simp [IntKind.wrap, IntKind.bits, IntKind.signed]; omega
          clear hnx hg3 HFT HNX
          go_wp2_with (at_builtin; refine wpList_app_runG rfl _ _ 50 50 rfl rfl _ _ _ rfl rfl hrun ?_)
          go_roundw
          case rel => exact ⟨k + 1, a + U, _, by go_num, by omega, by omega, HL3, HK2, hs3, HG3⟩
          case measure => simp [intOf]; omega
      · have hE' : (E != 0) = true := by simpa using hE
        have HNo : Hid (edR b = none) := HK.out.bad hin.2 HAN.out (by rw [HNX.out, if_pos (.inl hE)])
        clear HFT hE
        go_wp2_with (refine stop_store 56 _ _ rfl ?_)
        refine Stop.of ?_
        refine wpList_storeN rfl _ _ _ rfl w.heap.size 0 [.slice none 0 0, .slice none 0 0, .int .i64 0, .int .i64 0, .int .i64 0] rfl rfl _ _ HZ2.out (by simp) (by kernel_rfl) (by kernel_rfl) ?_
        intro W9 hW9
        have HK9 := stW_all hW9 (by simp)
        have HB9 : Hid (Below w.heap.size w W9) := HB2.out.trans (hW9.b _ (Nat.le_refl _))
        clear hW9
        go_wp2_with fail
        refine bodyPost_ret (results_c13 rfl _ _ w.heap.size _ rfl (run_loadVar_row _ w.heap.size _ _ _ (0, 0) _ HK9 Tryz.underlying56 rfl (by kernel_rfl))) rfl ?_
        exact RdP.no HNo.out HB9.out
    · have HF : Hid (rdA 300 b = some (l, b.drop a)) := HK.out.fin hk (by rw [HN.out]; exact hin)
      have HEo : Hid (edR b = if b.drop a = [] then edL l else none) := edR_of HF.out
      by_cases haN : a < N
      · have ha' : (a : Int) < (N : Int) := by omega
        have hk3 : k = 300 := by omega
        have hk' : ¬ (k : Int) < 300 := by omega
        have HNo : Hid (edR b = none) := by
          unfold Hid
          rw [HEo.out, if_neg]
          intro e
          have := congrArg List.length e
          rw [List.length_drop, HN.out] at this
          simp at this
          omega
        clear hk3
        have HJ : Hid (JU wr (.slice la k lc) l) := gown_ju HG.out.o
        have HC : Hid (Calls Tryz.prog 78 #[.slice la k lc] wr (EdP l wr)) := refEdit_any _ l wr HJ.out (rdA_inv 300 HF.out).2 (by rw [HL.out]; exact hk)
        go_wp2_with fail
        refine HC.out.mono ?_
        rintro e w2 ⟨dv2, av2, hv2, he2, hb2, hab1, hab2⟩
        have HB2 : Hid (Below w.heap.size w w2) := HBw.out.trans (hb2.mono HBw.out.size)
        have hwl : w.heap.size < wr.heap.size := (Array.getElem?_eq_some_iff.1 HZr.out).1
        have HZ2 : Hid (w2.heap[w.heap.size]? = some (.cells #[.slice none 0 0, .slice none 0 0, .int .i64 0, .int .i64 0, .int .i64 0] 56)) := (hb2.block _ hwl).trans HZr.out
        have hwl2 : w.heap.size < w2.heap.size := (Array.getElem?_eq_some_iff.1 HZ2.out).1
        obtain ⟨da2, dc2, rfl, _⟩ := he2.d.form
        obtain ⟨aa2, ac2, rfl, _⟩ := he2.a.form
        obtain ⟨x, Hx⟩ := hid_ex ((edL l).getD edZ)
        obtain ⟨ok, Hok⟩ := hid_ex (edL l).isSome
        rw [← Hx.out, ← Hok.out] at hv2
        rw [← Hx.out] at he2
        obtain ⟨DL, HDL⟩ : ∃ n, Hid (x.dr.length = n) := ⟨_, rfl⟩
        obtain ⟨AL, HAL⟩ : ∃ n, Hid (x.ad.length = n) := ⟨_, rfl⟩
        rw [← Hx.out] at hab1 hab2
        rw [HDL.out] at hab1
        rw [HAL.out] at hab2
        rw [HDL.out, HAL.out] at hv2 he2
        subst hv2
        have HAb : Hid (AboveV wr.heap.size (.slice da2 DL dc2) ∧ AboveV wr.heap.size (.slice aa2 AL ac2)) := ⟨hab1, hab2⟩
        clear hab1 hab2
        have HE2 : Hid (EdR w2 (.slice da2 DL dc2) (.slice aa2 AL ac2) x) := he2
        clear hb2 he2 HC
        have HOne : Hid (([.slice da2 DL dc2, .slice aa2 AL ac2, .int .i64 x.lo, .int .i64 x.ne, .int .i64 x.ma] : List Value).toArray.all (·.oneCell') = true) := by unfold Hid; kernel_rfl
        go_wp2_with (refine stop_store 56 _ _ rfl ?_)
        refine Stop.of ?_
        refine wpList_storeN rfl _ _ _ rfl w2.heap.size 0 [.slice da2 DL dc2, .slice aa2 AL ac2, .int .i64 x.lo, .int .i64 x.ne, .int .i64 x.ma] rfl rfl _ _ (heap_alloc_new _ _) (by simp) (by kernel_rfl) HOne.out ?_
        intro w3 hw3
        obtain ⟨hb3, hx3, hl3⟩ := stW_nw hw3 (by simp)
        have HB3 : Hid (Below w.heap.size w w3) := HB2.out.trans (hb3.mono HB2.out.size)
        have HZ3 : Hid (w3.heap[w.heap.size]? = some (.cells #[.slice none 0 0, .slice none 0 0, .int .i64 0, .int .i64 0, .int .i64 0] 56)) := (hb3.block _ hwl2).trans HZ2.out
        have HE3 : Hid (EdR w3 (.slice da2 DL dc2) (.slice aa2 AL ac2) x) := HE2.out.below hb3
        have HX3 : Hid (w3.heap[w2.heap.size]? = some (.cells #[.slice da2 DL dc2, .slice aa2 AL ac2, .int .i64 x.lo, .int .i64 x.ne, .int .i64 x.ma] 56)) := hx3
        clear hw3 hb3 hx3
        obtain ⟨d0, d1, d2, d3, d4⟩ := five HX3.out
        cases ok with
        | true =>
          go_wp2_with (refine stop_store 56 _ _ rfl ?_)
          refine Stop.of ?_
          refine wpList_storeN rfl _ _ _ rfl w.heap.size 0 [.slice none 0 0, .slice none 0 0, .int .i64 0, .int .i64 0, .int .i64 0] rfl rfl _ _ HZ3.out (by simp) (by kernel_rfl) (by kernel_rfl) ?_
          intro W9 hW9
          have HK9 := stW_all hW9 (by simp)
          have HB9 : Hid (Below w.heap.size w W9) := HB3.out.trans (hW9.b _ (Nat.le_refl _))
          clear hW9
          go_wp2_with fail
          refine bodyPost_ret (results_c13 rfl _ _ w.heap.size _ rfl (run_loadVar_row _ w.heap.size _ _ _ (0, 0) _ HK9 Tryz.underlying56 rfl (by kernel_rfl))) rfl ?_
          exact RdP.no HNo.out HB9.out
        | false =>
          go_wp2_with (refine stop_store 56 _ _ rfl ?_)
          refine Stop.of ?_
          refine wpList_storeN rfl _ _ _ rfl w.heap.size 0 [.slice none 0 0, .slice none 0 0, .int .i64 0, .int .i64 0, .int .i64 0] rfl rfl _ _ HZ3.out (by simp) (by kernel_rfl) (by kernel_rfl) ?_
          intro W9 hW9
          have HK9 := stW_all hW9 (by simp)
          have HB9 : Hid (Below w.heap.size w W9) := HB3.out.trans (hW9.b _ (Nat.le_refl _))
          clear hW9
          go_wp2_with fail
          refine bodyPost_ret (results_c13 rfl _ _ w.heap.size _ rfl (run_loadVar_row _ w.heap.size _ _ _ (0, 0) _ HK9 Tryz.underlying56 rfl (by kernel_rfl))) rfl ?_
          exact RdP.no HNo.out HB9.out
      · have ha' : ¬ (a : Int) < (N : Int) := by omega
        have HEl : Hid (edR b = edL l) := by
          unfold Hid
          rw [HEo.out, if_pos (List.drop_eq_nil_of_le (by rw [HN.out]; omega))]
        have HJ : Hid (JU wr (.slice la k lc) l) := gown_ju HG.out.o
        have HC : Hid (Calls Tryz.prog 78 #[.slice la k lc] wr (EdP l wr)) := refEdit_any _ l wr HJ.out (rdA_inv 300 HF.out).2 (by rw [HL.out]; exact hk)
        go_wp2_with fail
        refine HC.out.mono ?_
        rintro e w2 ⟨dv2, av2, hv2, he2, hb2, hab1, hab2⟩
        have HB2 : Hid (Below w.heap.size w w2) := HBw.out.trans (hb2.mono HBw.out.size)
        have hwl : w.heap.size < wr.heap.size := (Array.getElem?_eq_some_iff.1 HZr.out).1
        have HZ2 : Hid (w2.heap[w.heap.size]? = some (.cells #[.slice none 0 0, .slice none 0 0, .int .i64 0, .int .i64 0, .int .i64 0] 56)) := (hb2.block _ hwl).trans HZr.out
        have hwl2 : w.heap.size < w2.heap.size := (Array.getElem?_eq_some_iff.1 HZ2.out).1
        obtain ⟨da2, dc2, rfl, _⟩ := he2.d.form
        obtain ⟨aa2, ac2, rfl, _⟩ := he2.a.form
        obtain ⟨x, Hx⟩ := hid_ex ((edL l).getD edZ)
        obtain ⟨ok, Hok⟩ := hid_ex (edL l).isSome
        rw [← Hx.out, ← Hok.out] at hv2
        rw [← Hx.out] at he2
        obtain ⟨DL, HDL⟩ : ∃ n, Hid (x.dr.length = n) := ⟨_, rfl⟩
        obtain ⟨AL, HAL⟩ : ∃ n, Hid (x.ad.length = n) := ⟨_, rfl⟩
        rw [← Hx.out] at hab1 hab2
        rw [HDL.out] at hab1
        rw [HAL.out] at hab2
        rw [HDL.out, HAL.out] at hv2 he2
        subst hv2
        have HAb : Hid (AboveV wr.heap.size (.slice da2 DL dc2) ∧ AboveV wr.heap.size (.slice aa2 AL ac2)) := ⟨hab1, hab2⟩
        clear hab1 hab2
        have HE2 : Hid (EdR w2 (.slice da2 DL dc2) (.slice aa2 AL ac2) x) := he2
        clear hb2 he2 HC
        have HOne : Hid (([.slice da2 DL dc2, .slice aa2 AL ac2, .int .i64 x.lo, .int .i64 x.ne, .int .i64 x.ma] : List Value).toArray.all (·.oneCell') = true) := by unfold Hid; kernel_rfl
        go_wp2_with (refine stop_store 56 _ _ rfl ?_)
        refine Stop.of ?_
        refine wpList_storeN rfl _ _ _ rfl w2.heap.size 0 [.slice da2 DL dc2, .slice aa2 AL ac2, .int .i64 x.lo, .int .i64 x.ne, .int .i64 x.ma] rfl rfl _ _ (heap_alloc_new _ _) (by simp) (by kernel_rfl) HOne.out ?_
        intro w3 hw3
        obtain ⟨hb3, hx3, hl3⟩ := stW_nw hw3 (by simp)
        have HB3 : Hid (Below w.heap.size w w3) := HB2.out.trans (hb3.mono HB2.out.size)
        have HZ3 : Hid (w3.heap[w.heap.size]? = some (.cells #[.slice none 0 0, .slice none 0 0, .int .i64 0, .int .i64 0, .int .i64 0] 56)) := (hb3.block _ hwl2).trans HZ2.out
        have HE3 : Hid (EdR w3 (.slice da2 DL dc2) (.slice aa2 AL ac2) x) := HE2.out.below hb3
        have HX3 : Hid (w3.heap[w2.heap.size]? = some (.cells #[.slice da2 DL dc2, .slice aa2 AL ac2, .int .i64 x.lo, .int .i64 x.ne, .int .i64 x.ma] 56)) := hx3
        clear hw3 hb3 hx3
        obtain ⟨d0, d1, d2, d3, d4⟩ := five HX3.out
        cases hed : edL l with
        | none =>
          have hok0 : ok = false := by rw [Hok.out, hed]; rfl
          subst hok0
          have HNo : Hid (edR b = none) := HEl.out.trans hed
          clear hed
          go_wp2_with (refine stop_store 56 _ _ rfl ?_)
          refine Stop.of ?_
          refine wpList_storeN rfl _ _ _ rfl w.heap.size 0 [.slice none 0 0, .slice none 0 0, .int .i64 0, .int .i64 0, .int .i64 0] rfl rfl _ _ HZ3.out (by simp) (by kernel_rfl) (by kernel_rfl) ?_
          intro W9 hW9
          have HK9 := stW_all hW9 (by simp)
          have HB9 : Hid (Below w.heap.size w W9) := HB3.out.trans (hW9.b _ (Nat.le_refl _))
          clear hW9
          go_wp2_with fail
          refine bodyPost_ret (results_c13 rfl _ _ w.heap.size _ rfl (run_loadVar_row _ w.heap.size _ _ _ (0, 0) _ HK9 Tryz.underlying56 rfl (by kernel_rfl))) rfl ?_
          exact RdP.no HNo.out HB9.out
        | some y =>
          have hok0 : ok = true := by rw [Hok.out, hed]; rfl
          have hxy : x = y := by rw [Hx.out, hed]; rfl
          subst hok0
          subst hxy
          have HYs : Hid (edR b = some x) := HEl.out.trans hed
          clear hed
          go_wp2_with (refine stop_store 56 _ _ rfl ?_)
          refine Stop.of ?_
          refine wpList_storeN rfl _ _ _ rfl w.heap.size 0 [.slice da2 DL dc2, .slice aa2 AL ac2, .int .i64 x.lo, .int .i64 x.ne, .int .i64 x.ma] rfl rfl _ _ HZ3.out (by simp) (by kernel_rfl) HOne.out ?_
          intro W9 hW9
          have HK9 := stW_all hW9 (by simp)
          have HB9 : Hid (Below w.heap.size w W9) := HB3.out.trans (hW9.b _ (Nat.le_refl _))
          have HO9 : Hid (∀ k, k ≠ w.heap.size → W9.heap[k]? = w3.heap[k]?) := hW9.o
          clear hW9
          go_wp2_with fail
          refine bodyPost_ret (results_c13 rfl _ _ w.heap.size _ rfl (run_loadVar_row _ w.heap.size _ _ _ (0, 0) _ HK9 Tryz.underlying56 rfl (by kernel_rfl))) rfl ?_
          refine ⟨_, _, by rw [HYs.out]; rfl, ?_, HB9.out⟩
          rw [HYs.out]
          exact ⟨HE3.out.d.keepB fun b' off' n' c' e => HO9.out b' (by have := HAb.out.1 b' off' n' c' e; omega), HE3.out.a.keepB fun b' off' n' c' e => HO9.out b' (by have := HAb.out.2 b' off' n' c' e; omega)⟩
end Go.Proofs.YtilbffgpniomcaaGreatDoor

/- Lists of slices of bytes; the reference's Same. -/
namespace Go.Proofs.YtilbffgpniomcaaGreatDoor
open Go.RowKit

/-- A slice of slices reads these. -/
def LReads (w : World) (v : Value) (L : List (List UInt8)) : Prop :=
  ∃ a cap, v = .slice a L.length cap ∧ L.length ≤ cap ∧ cap ≤ maxLen ∧ (L = [] ∨ ∃ b off, a = some ⟨b, off, none⟩ ∧ b < w.heap.size ∧ ∀ j (hj : j < L.length), ∃ vj, w.cell? ⟨b, off + j, none⟩ = some vj ∧ Reads w vj L[j])
theorem LReads.below {w w' : World} {v : Value} {L : List (List UInt8)} (h : LReads w v L) (hb : Below w.heap.size w w') : LReads w' v L := by
  obtain ⟨a, cap, rfl, h1, h2, h3⟩ := h
  refine ⟨a, cap, rfl, h1, h2, ?_⟩
  rcases h3 with h3 | ⟨b, off, h4, h5, h6⟩
  · exact .inl h3
  · refine .inr ⟨b, off, h4, Nat.lt_of_lt_of_le h5 hb.size, fun j hj => ?_⟩
    obtain ⟨vj, g1, g2⟩ := h6 j hj
    exact ⟨vj, (hb.cell (p := ⟨b, off + j, none⟩) h5).trans g1, g2.below hb⟩
theorem LReads.take {w : World} {a : Option Addr} {n cap : Nat} {L : List (List UInt8)} (h : LReads w (.slice a n cap) L) {c : Nat} (hc : c ≤ L.length) : LReads w (.slice a c cap) (L.take c) := by
  obtain ⟨a', cap', hv, h1, h2, h3⟩ := h
  simp at hv
  obtain ⟨rfl, rfl, rfl⟩ := hv
  refine ⟨_, _, by rw [List.length_take, Nat.min_eq_left hc], by simp; omega, h2, ?_⟩
  rcases h3 with rfl | ⟨b, off, h4, h5, h6⟩
  · exact .inl (by simp)
  · refine .inr ⟨b, off, h4, h5, fun j hj => ?_⟩
    obtain ⟨vj, g1, g2⟩ := h6 j (by simp at hj; omega)
    exact ⟨vj, g1, by simpa using g2⟩
/-- What All hands back. -/
theorem LReads.of_row {w : World} {base base' : Nat} {vl : Value} {xs : List Fr} (h : w.ownsRow base 22 1 vl xs.length (xs.map Fr.v)) (ho : ∀ x ∈ xs, Own w base' x.v x.D) : LReads w vl (xs.map Fr.D) := by
  by_cases h0 : xs = []
  · subst h0
    rcases h.2 with ⟨h1, _⟩ | ⟨g, cap, cur, hv, hg, hw, hc, hm, _⟩
    · exact ⟨none, 0, by simpa using h1, by simp, by simp, .inl rfl⟩
    · exact ⟨_, cap, by simpa using hv, by simp, hm, .inl rfl⟩
  · have hl : 0 < xs.length := List.length_pos_iff.2 h0
    have hlt := World.ownsRow.lt h
    rcases h.2 with ⟨_, h1⟩ | ⟨g, cap, cur, hv, hg, hw, hc, hm, _⟩
    · omega
    · subst hv
      refine ⟨_, cap, by rw [List.length_map], by simpa using hc, hm, .inr ⟨g, 0, rfl, (hlt g rfl).2, fun j hj => ?_⟩⟩
      simp at hj
      refine ⟨xs[j].v, ?_, ?_⟩
      · rw [Nat.zero_add, World.ownsRow.cellAt h j (by simpa using hj)]; simp [hj]
      · rw [List.getElem_map]; exact (ho _ (List.getElem_mem hj)).reads
end Go.Proofs.YtilbffgpniomcaaGreatDoor

/- The contracts of the reference's step, More and Sum. -/
namespace Go.Proofs.YtilbffgpniomcaaGreatDoor
open Go.RowKit

theorem ret_int {k : IntKind} {a b : Int} (h : a = b) : Ending.returned (.int k a) = .returned (.int k b) := by rw [h]

set_option maxRecDepth 100000 in
set_option maxHeartbeats 1000000 in
theorem step_any (c : Nat) (hc : c < 4294967296) (x : UInt8) (w : World) :
    Calls Tryz.prog 103 #[.int .u32 (c : Int), .int .u8 (x.toNat : Int)] w fun e w' => e = .returned (.int .u32 (byt c x : Nat)) ∧ w' = w := by
  have hxb : x.toNat < 256 := x.toNat_lt
  have hx := x_xor (c := c) (d := x.toNat) hc (by omega)
  go_enter Tryz.func103, Tryz.ntmps103
  go_wp2_with fail
  go_loop [0, 5] (fun r i => ∃ m d : Nat, m ≤ 8 ∧ i = .int .i64 m ∧ d < 4294967296 ∧ r = .int .u32 (d : Int) ∧ Hid (d = stpsV m (c ^^^ x.toNat))) (fun _ i => 8 - (intOf i).toNat)
  case atStart => exact ⟨0, _, by omega, rfl, xor_lt32 hc (by omega), rfl, rfl⟩
  case round =>
    obtain ⟨m, d, hm, rfl, hd, rfl, HD⟩ := hrel
    by_cases hm8 : m < 8
    · have y1 := x_turn hd
      rcases Nat.mod_two_eq_zero_or_one d with h2 | h2
      · have hs2 : stpV d = d / 2 := by unfold stpV; rw [if_neg (by omega)]
        have HS : Hid (d / 2 = stpsV (m + 1) (c ^^^ x.toNat)) := by unfold Hid; rw [stps_snocV, ← HD.out, hs2]
        have h3 : (d : Int) % 2 = 0 := by omega
        clear hs2 h2
        go_wp2_with fail
        go_round
        case rel => exact ⟨m + 1, d / 2, by omega, by go_num, by omega, by go_num, HS⟩
        case measure => simp [intOf]; omega
      · have hs2 : stpV d = d / 2 ^^^ 2197175160 := by unfold stpV; rw [if_pos h2]
        have HS : Hid (d / 2 ^^^ 2197175160 = stpsV (m + 1) (c ^^^ x.toNat)) := by unfold Hid; rw [stps_snocV, ← HD.out, hs2]
        have hlt2 := xor_lt32 (a := d / 2) (b := 2197175160) (by omega) (by omega)
        have h3 : (d : Int) % 2 = 1 := by omega
        clear hs2 h2
        go_wp2_with fail
        go_round
        case rel => exact ⟨m + 1, d / 2 ^^^ 2197175160, by omega, by go_num, hlt2, rfl, HS⟩
        case measure => simp [intOf]; omega
    · have HS : Hid (d = byt c x) := by
        unfold Hid
        have e8 : m = 8 := by omega
        rw [HD.out, e8]; rfl
      go_wp2_with fail
      go_ret
      exact ⟨by rw [HS.out]; rfl, rfl⟩
set_option maxRecDepth 100000 in
set_option maxHeartbeats 1000000 in
theorem refMore_some (s : Nat) (hs : s < 4294967296) (b off cap : Nat) (l : List UInt8) (hl : l.length ≤ maxLen) (w : World)
    (hc : ∀ j (h : j < l.length), w.cell? ⟨b, off + j, none⟩ = some (bc l[j])) :
    Calls Tryz.prog 84 #[.int .u32 (s : Int), .slice (some ⟨b, off, none⟩) l.length cap] w fun e w' => e = .returned (.int .u32 (mor s l : Nat)) ∧ w' = w := by
  unfold maxLen at hl
  have HC : Hid (∀ j (h : j < l.length), w.cell? ⟨b, off + j, none⟩ = some (bc l[j])) := hc
  clear hc
  go_enter Tryz.func84, Tryz.ntmps84
  go_wp2_with fail
  go_loop [5, 6] (fun r i => ∃ k c : Nat, k ≤ l.length ∧ i = .int .i64 k ∧ c < 4294967296 ∧ r = .int .u32 (c : Int) ∧ Hid (c = reg (4294967295 - s) (l.take k))) (fun _ i => l.length - (intOf i).toNat)
  case atStart => exact ⟨0, 4294967295 - s, Nat.zero_le _, rfl, by omega, by go_num, rfl⟩
  case round =>
    obtain ⟨k, c, hk, rfl, hcl, rfl, HE⟩ := hrel
    by_cases hlt : k < l.length
    · have hcell := HC.out k hlt
      unfold bc at hcell
      go_wp2_with fail
      refine (step_any c hcl l[k] _).mono ?_
      rintro e w1 ⟨rfl, hw⟩
      subst w1
      have HS : Hid (byt c l[k] = reg (4294967295 - s) (l.take (k + 1))) := by
        unfold Hid
        rw [List.take_succ_eq_append_getElem hlt, reg_snoc, ← HE.out]
      have hbl := byt_lt (c := c) (x := l[k]) hcl
      go_wp2_with fail
      go_round
      case rel => exact ⟨k + 1, _, by omega, by go_num, hbl, rfl, HS⟩
      case measure => simp [intOf]; omega
    · have hkl : k = l.length := by omega
      have HS : Hid (4294967295 - c = mor s l) := by
        unfold Hid mor
        rw [HE.out, hkl, List.take_length]
      clear hkl
      go_wp2_with fail
      go_ret
      exact ⟨by rw [← HS.out]; exact ret_int (by omega), rfl⟩
theorem refMore_none (s : Nat) (hs : s < 4294967296) (a : Option Addr) (cap : Nat) (w : World) :
    Calls Tryz.prog 84 #[.int .u32 (s : Int), .slice a 0 cap] w fun e w' => e = .returned (.int .u32 (mor s [] : Nat)) ∧ w' = w := by
  have HS : Hid (mor s [] = s) := mor_nil hs
  go_enter Tryz.func84, Tryz.ntmps84
  go_wp2_with fail
  go_loop [5, 6] (fun r i => i = .int .i64 0 ∧ r = .int .u32 (4294967295 - (s : Int))) (fun _ _ => 0)
  case atStart => exact ⟨rfl, rfl⟩
  case round =>
    obtain ⟨rfl, rfl⟩ := hrel
    go_wp2_with fail
    go_ret
    exact ⟨by rw [HS.out]; exact ret_int (by omega), rfl⟩
theorem refMore_any (s : Nat) (hs : s < 4294967296) (v : Value) (l : List UInt8) (w : World) (h : Reads w v l) :
    Calls Tryz.prog 84 #[.int .u32 (s : Int), v] w fun e w' => e = .returned (.int .u32 (mor s l : Nat)) ∧ w' = w := by
  rcases h with ⟨rfl, a, cap, rfl, _⟩ | ⟨b, off, cap, rfl, h2, h3, h4, h5, h6⟩
  · exact refMore_none s hs a cap w
  · exact refMore_some s hs b off cap l (by omega) w h6
theorem refSum_any (v : Value) (l : List UInt8) (w : World) (h : Reads w v l) :
    Calls Tryz.prog 57 #[v] w fun e w' => e = .returned (.int .u32 (mor 0 l : Nat)) ∧ w' = w := by
  obtain ⟨a, cap, rfl, _⟩ := h.form
  go_enter Tryz.func57, Tryz.ntmps57
  go_wp2_with fail
  refine (refMore_any 0 (by decide) _ l _ h).mono ?_
  rintro e w' ⟨rfl, hw⟩
  subst w'
  clear h
  go_wp2_with fail
  go_ret
  exact ⟨rfl, rfl⟩
end Go.Proofs.YtilbffgpniomcaaGreatDoor

/- The reference's frames. -/
namespace Go.Proofs.YtilbffgpniomcaaGreatDoor
open Go.RowKit

theorem four_at (n k : Nat) (hk : k < 4) : (four n).take (k + 1) = (four n).take k ++ [UInt8.ofNat (n / 256 ^ k)] := by
  have h : k = 0 ∨ k = 1 ∨ k = 2 ∨ k = 3 := by omega
  rcases h with rfl | rfl | rfl | rfl <;> simp [four]
set_option maxRecDepth 100000 in
set_option maxHeartbeats 1000000 in
theorem refFour_any (n : Nat) (hn : n < 4294967296) (w : World) :
    Calls Tryz.prog 56 #[.int .u32 (n : Int)] w fun e w' => ∃ v', e = .returned v' ∧ Own w' w.heap.size v' (four n) ∧ Below w.heap.size w w' := by
  go_enter Tryz.func56, Tryz.ntmps56
  go_wp2_with fail
  go_loopw [0, 3, 4] (fun x v i wr => ∃ k m : Nat, k ≤ 4 ∧ i = .int .i64 (k : Int) ∧ x = .int .u32 (m : Int) ∧ Hid (m = n / 256 ^ k) ∧ m < 4294967296 ∧ Hid (Own wr w.heap.size v ((four n).take k)) ∧ Hid (Below w.heap.size w wr)) (fun _ _ i _ => 4 - (intOf i).toNat)
  case atStart => exact ⟨0, n, by omega, rfl, rfl, by simp [Hid], hn, Own.nil _ _, Below.refl _ _⟩
  case round =>
    obtain ⟨k, m, hk, rfl, rfl, HM, hm, HO, HB⟩ := hrel
    by_cases hlt : k < 4
    · have HF : Hid ((four n).take (k + 1) = (four n).take k ++ [UInt8.ofNat m]) := by rw [HM.out]; exact four_at n k hlt
      have HM2 : Hid (m / 256 = n / 256 ^ (k + 1)) := by rw [HM.out, Nat.div_div_eq_div_mul, Nat.pow_succ]; exact rfl
      have hkl : ((four n).take k).length ≤ 4 := by simp [four_len]; omega
      have hsz := HB.out.size
      have hdm : (m : Int).tdiv 256 = ((m / 256 : Nat) : Int) := by rw [Int.tdiv_eq_ediv_of_nonneg (by omega)]; omega
      have hdw : IntKind.u32.wrap ((m / 256 : Nat) : Int) = ((m / 256 : Nat) : Int) := by simp [IntKind.wrap, IntKind.bits, IntKind.signed]; omega
      have hdc : IntKind.u32.wrap ((m : Int).tdiv 256) = ((m / 256 : Nat) : Int) := by rw [hdm, hdw]
      clear hdm hdw
      have hw1 : ((m : Int) % 256) % 256 = (m : Int) % 256 := by omega
      have hbc : Value.int .u8 ((m : Int) % 256) = bc (UInt8.ofNat m) := by
        unfold bc; rw [UInt8.toNat_ofNat']; simp
      have HBC : Hid _ := hbc
      clear hbc HM hw1
      go_wp2_with (at_builtin; refine wpList_app1 rfl _ _ rfl w.heap.size _ ((four n).take k) (UInt8.ofNat m) _ HF.out (by first | exact HBC.out | simpa using HBC.out) rfl rfl HO.out (by omega) hsz ?_)
      intro v2 w2 HO2 hb2
      have HB2 : Hid (Below w.heap.size w w2) := HB.out.trans hb2.out
      have HP2 : Hid (Own w2 w.heap.size v2 ((four n).take (k + 1))) := HO2
      clear HO2 hb2 HB HO HF HBC
      go_wp2_with fail
      go_roundw
      case rel => exact ⟨k + 1, m / 256, by omega, by simp, by simp, HM2, by omega, HP2, HB2⟩
      case measure => simp [intOf]; omega
    · have hke : k = 4 := by omega
      subst hke
      have HP : Hid (Own wr w.heap.size u3 (four n)) := HO.out
      clear HO HM
      go_wp2_with fail
      go_ret
      exact ⟨_, rfl, HP.out, HB.out⟩
set_option maxRecDepth 100000 in
set_option maxHeartbeats 1000000 in
theorem refNumber_any (v : Value) (l : List UInt8) (hl : 4 ≤ l.length) (w : World) (hr : Reads w v l) :
    Calls Tryz.prog 99 #[v] w fun e w' => e = .returned (.int .i64 (vle (l.take 4) : Nat)) ∧ Below w.heap.size w w' := by
  obtain ⟨a, cap, rfl, hm⟩ := hr.form
  obtain ⟨b, off, rfl, _, c0⟩ := hr.at 0 (by omega)
  obtain ⟨b1, off1, e1, _, c1⟩ := hr.at 1 (by omega)
  obtain ⟨b2, off2, e2, _, c2⟩ := hr.at 2 (by omega)
  obtain ⟨b3, off3, e3, _, c3⟩ := hr.at 3 (by omega)
  simp only [Option.some.injEq, Addr.mk.injEq, and_true] at e1 e2 e3
  obtain ⟨rfl, rfl⟩ := e1
  obtain ⟨rfl, rfl⟩ := e2
  obtain ⟨rfl, rfl⟩ := e3
  have hv : vle (l.take 4) = l[0].toNat + 256 * (l[1].toNat + 256 * (l[2].toNat + 256 * l[3].toNat)) := by
    match l, hl with
    | x :: y :: z :: u :: l, _ => simp [vle]
  have b0 := (l[0]).toNat_lt
  have b1 := (l[1]).toNat_lt
  have b2 := (l[2]).toNat_lt
  have b3 := (l[3]).toNat_lt
  unfold bc at c0 c1 c2 c3
  rw [Nat.add_zero] at c0
  generalize l[0].toNat = x0 at *
  generalize l[1].toNat = x1 at *
  generalize l[2].toNat = x2 at *
  generalize l[3].toNat = x3 at *
  have i1 : (1 : Int) < (l.length : Int) := by omega
  have i2 : (2 : Int) < (l.length : Int) := by omega
  have i3 : (3 : Int) < (l.length : Int) := by omega
  have i0 : (0 : Int) < (l.length : Int) := by omega
  have HV : Hid _ := hv
  clear hv hr
  rw [HV.out]
  go_enter Tryz.func99, Tryz.ntmps99
  go_wp2_with fail
  go_region
  go_wp2_with fail
  go_ret
  exact ⟨ret_int (by omega), (Below.refl _ _).drew⟩
end Go.Proofs.YtilbffgpniomcaaGreatDoor

/- A drawn region's walk may hold on to more, as it goes on. -/
namespace Go.Proofs.YtilbffgpniomcaaGreatDoor
open Go.RowKit

theorem wpAnyH_sub {P : Program} {md : Region.Mode} {ops : Array Oper} {Q : Exit → Act → World → Prop} {S S' : World → Prop} (hS : ∀ w, S' w → S w) :
    ∀ (fuel : Nat) (listed : Array Bool) (a : Act) (w : World), wpAnyH P md ops Q S' fuel listed a w → wpAnyH P md ops Q S fuel listed a w
  | 0, _, _, _, h => h
  | fuel + 1, _, _, _, h => ⟨h.1, fun i hi => wpOp_mono (fun a' w' h' => ⟨hS _ h'.1, wpAnyH_sub hS fuel _ a' w' h'.2⟩) (h.2 i hi)⟩
end Go.Proofs.YtilbffgpniomcaaGreatDoor
