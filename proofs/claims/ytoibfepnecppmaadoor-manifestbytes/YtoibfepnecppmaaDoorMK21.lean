/- MY6x, joined. -/
import Derived.Test.YtoibfepnecppmaaDoorMK20
/- The reference of layer 13: Read. -/
namespace Go.Proofs.YtoibfepnecppmaaDoor
open Go.RowKit Go.Shelf

/-- How far the numbers have been read. -/
def RdK (b : List UInt8) (k at' : Nat) (l : List Int) : Prop := rdA 300 b = match rdA (300 - k) (b.drop at') with
  | none => none
  | some (l', r) => some (l ++ l', r)
theorem RdK.start (b : List UInt8) : RdK b 0 0 [] := by
  unfold RdK
  rw [List.drop_zero, Nat.sub_zero]
  cases rdA 300 b with
  | none => rfl
  | some q => rfl
theorem RdK.bad {b : List UInt8} {k a : Nat} {l : List Int} (h : RdK b k a l) (hk : k < 300) (ha : a < b.length) (hn : nxN big (b.drop a) = none) : edR b = none := by
  rw [← refR_edR]
  unfold refR
  have hne : b.drop a ≠ [] := by intro e; have := congrArg List.length e; rw [List.length_drop] at this; simp at this; omega
  have e : rdA (300 - k) (b.drop a) = none := by
    rw [show 300 - k = (299 - k) + 1 by omega, rdA, if_neg hne, hn]
  unfold RdK at h
  rw [e] at h
  rw [h]
theorem RdK.step {b : List UInt8} {k a : Nat} {l : List Int} (h : RdK b k a l) (hk : k < 300) (ha : a < b.length) {v : Int} {u : Nat} (hn : nxN big (b.drop a) = some (v, (b.drop a).drop u)) : RdK b (k + 1) (a + u) (l ++ [v]) := by
  have hne : b.drop a ≠ [] := by intro e; have := congrArg List.length e; rw [List.length_drop] at this; simp at this; omega
  unfold RdK at h ⊢
  rw [h, show 300 - k = (300 - (k + 1)) + 1 by omega, rdA, if_neg hne, hn]
  simp only
  rw [List.drop_drop]
  cases rdA (300 - (k + 1)) (b.drop (a + u)) with
  | none => rfl
  | some q => simp
theorem RdK.fin {b : List UInt8} {k a : Nat} {l : List Int} (h : RdK b k a l) (hk : k ≤ 300) (he : ¬ (a < b.length ∧ k < 300)) : rdA 300 b = some (l, b.drop a) := by
  unfold RdK at h
  rw [h]
  by_cases h3 : k = 300
  · subst h3
    rw [Nat.sub_self, rdA]; simp
  · have hd : b.drop a = [] := List.drop_eq_nil_of_le (by omega)
    rw [hd, show 300 - k = (299 - k) + 1 by omega, rdA, if_pos rfl]; simp
theorem edR_of {b : List UInt8} {l : List Int} {r : List UInt8} (h : rdA 300 b = some (l, r)) : edR b = if r = [] then edL l else none := by
  rw [← refR_edR]; unfold refR; rw [h]
theorem nx_of {b : List UInt8} {V U : Nat} {E : Int} (h : rsF b 0 0 = (V, U, E)) : nxN big b = if E ≠ 0 ∨ 9223372036854775807 < V then none else some ((V : Int), b.drop U) := by
  unfold nxN big
  rw [h]
theorem RdP.no {b : List UInt8} (h : edR b = none) {w w' : World} (hb : Below w.heap.size w w') : RdP w w' (.returned (.tuple #[.agg #[.slice none 0 0, .slice none 0 0, .int .i64 0, .int .i64 0, .int .i64 0], .int .i64 100])) b := by
  refine ⟨.slice none 0 0, .slice none 0 0, by rw [h]; rfl, ?_, hb⟩
  rw [h]
  exact ⟨jr_nil _, (ur_nil _).r⟩
set_option maxRecDepth 100000 in
set_option maxHeartbeats 8000000 in
theorem refRead13_any (bv : Value) (b : List UInt8) (w : World) (h : Reads w bv b) (hbl : b.length ≤ 2000) :
    Calls Tryd.prog 9 #[bv] w fun e w' => RdP w w' e b := by
  obtain ⟨ba, bc, rfl, hm⟩ := h.form
  have HR : Hid (Reads w (.slice ba b.length bc) b) := h
  clear h hm
  obtain ⟨N, HN⟩ : ∃ n, Hid (b.length = n) := ⟨_, rfl⟩
  rw [HN.out] at HR hbl ⊢
  obtain ⟨w0, HW0⟩ := hid_ex (w.alloc (.cells #[.slice none 0 0, .slice none 0 0, .int .i64 0, .int .i64 0, .int .i64 0] 34))
  have HB0 : Hid (Below w.heap.size w w0) := by rw [HW0.out]; exact (Below.refl _ _).alloc (Nat.le_refl _) _
  have HZ0 : Hid (w0.heap[w.heap.size]? = some (.cells #[.slice none 0 0, .slice none 0 0, .int .i64 0, .int .i64 0, .int .i64 0] 34)) := by unfold Hid; rw [HW0.out]; exact heap_alloc_new _ _
  have hz0 : w0.heap.size = w.heap.size + 1 := by rw [HW0.out]; simp
  go_enter Tryd.func9, Tryd.ntmps9
  go_wp2_with fail
  rw [← HW0.out]
  clear HW0
  go_loopw [4, 5] (fun lv av wr => ∃ (k a : Nat) (l : List Int), av = .int .i64 (a : Int) ∧ a ≤ N ∧ k ≤ 300 ∧ Hid (l.length = k) ∧ Hid (RdK b k a l) ∧ w0.heap.size ≤ wr.heap.size ∧ Hid (IG w0.heap.size w0 wr lv l)) (fun _ av _ => N - (intOf av).toNat)
  case atStart => exact ⟨0, 0, [], rfl, by omega, by omega, rfl, RdK.start b, Nat.le_refl _, ⟨⟨rfl, .inl ⟨rfl, rfl⟩⟩, fun k e => by simp [Value.ownBlock] at e, Below.refl _ _⟩⟩
  case round =>
    obtain ⟨k, a, l, rfl, ha, hk, HL, HK, hsz, HG⟩ := hrel
    have HBw : Hid (Below w.heap.size w wr) := HB0.out.trans (HG.out.b.mono (by omega))
    have HZr : Hid (wr.heap[w.heap.size]? = some (.cells #[.slice none 0 0, .slice none 0 0, .int .i64 0, .int .i64 0, .int .i64 0] 34)) := (HG.out.b.block _ (by omega)).trans HZ0.out
    obtain ⟨la, lc, hlv, -⟩ := GOwn.form HG.out.o
    rw [HL.out] at hlv
    subst hlv
    by_cases hin : a < N ∧ k < 300
    · have ha' : (a : Int) < (N : Int) := by omega
      have hk' : (k : Int) < 300 := by omega
      obtain ⟨sa, sc, hsl, hrd⟩ := sl_from (show Reads w (.slice ba b.length bc) b by rw [HN.out]; exact HR.out) (c := a) (by rw [HN.out]; exact ha)
      rw [HN.out] at hsl hrd
      have HRd : Hid (Reads w (.slice sa (N - a) sc) (b.drop a)) := hrd
      obtain ⟨V, U, E, HT⟩ : ∃ V U E, Hid (rsF (b.drop a) 0 0 = (V, U, E)) := ⟨_, _, _, rfl⟩
      have HC : Hid (Calls Tryd.prog 23 #[.slice sa (N - a) sc] wr fun e w' => e = .returned (.tuple #[.int .u64 V, .int .i64 U, .int .i64 E]) ∧ Below wr.heap.size wr w') := by
        have := refReadShort_any _ (b.drop a) wr (HRd.out.below HBw.out)
        rw [HT.out] at this
        exact this
      have HNx := nx_of HT.out
      have HNX : Hid (nxN big (b.drop a) = if E ≠ 0 ∨ 9223372036854775807 < V then none else some ((V : Int), (b.drop a).drop U)) := HNx
      have HFt := rs_fits (b.drop a)
      rw [HT.out] at HFt
      have HFT : Hid (E = 0 → U ≤ (b.drop a).length ∧ V < 18446744073709551616) := HFt
      have haN : a < b.length := by rw [HN.out]; exact hin.1
      have HAN : Hid (a < b.length) := haN
      clear hrd HNx HFt haN
      go_wp2_with fail
      refine HC.out.mono ?_
      rintro e w2 ⟨rfl, hb2⟩
      have HB2 : Hid (Below w.heap.size w w2) := HBw.out.trans (hb2.mono HBw.out.size)
      have hwl : w.heap.size < wr.heap.size := (Array.getElem?_eq_some_iff.1 HZr.out).1
      have HZ2 : Hid (w2.heap[w.heap.size]? = some (.cells #[.slice none 0 0, .slice none 0 0, .int .i64 0, .int .i64 0, .int .i64 0] 34)) := (hb2.block _ hwl).trans HZr.out
      have HG2 : Hid (IG w0.heap.size w0 w2 (.slice la k lc) l) := HG.out.below hb2 hsz
      have hs2 : w0.heap.size ≤ w2.heap.size := by have := hb2.size; omega
      clear hb2 HC HG
      by_cases hE : E = 0
      · subst hE
        by_cases hV : 9223372036854775807 < V
        · have hV' : (9223372036854775807 : Int) < (V : Int) := by omega
          have HNo : Hid (edR b = none) := HK.out.bad hin.2 HAN.out (by rw [HNX.out, if_pos (.inr hV)])
          go_wp2_with (refine stop_store 34 _ _ rfl ?_)
          refine Stop.of ?_
          refine wpList_storeN rfl _ _ _ rfl w.heap.size 0 [.slice none 0 0, .slice none 0 0, .int .i64 0, .int .i64 0, .int .i64 0] rfl rfl _ _ HZ2.out (by simp) (by kernel_rfl) (by kernel_rfl) ?_
          intro W9 hW9
          have HK9 := stW_all hW9 (by simp)
          have HB9 : Hid (Below w.heap.size w W9) := HB2.out.trans (hW9.b _ (Nat.le_refl _))
          clear hW9
          go_wp2_with fail
          refine bodyPost_ret (results_c13 rfl _ _ w.heap.size _ rfl (run_loadVar_row _ w.heap.size _ _ _ (0, 0) _ HK9 Tryd.underlying34 rfl (by kernel_rfl))) rfl ?_
          exact RdP.no HNo.out HB9.out
        · have hV' : ¬ (9223372036854775807 : Int) < (V : Int) := by omega
          obtain ⟨hU, hV2⟩ := HFT.out rfl
          have hnx : nxN big (b.drop a) = some ((V : Int), (b.drop a).drop U) := by rw [HNX.out, if_neg (by simp; omega)]
          have hU1 : 1 ≤ U := by
            have := nx_len hnx
            rw [List.length_drop] at this
            omega
          rw [List.length_drop, HN.out] at hU
          have HK2 : Hid (RdK b (k + 1) (a + U) (l ++ [(V : Int)])) := HK.out.step hin.2 HAN.out hnx
          obtain ⟨v3, w3, hrun, hg3, hs3⟩ := HG2.out.appN hs2 [(V : Int)] (by rw [HL.out]; simp; omega)
          have HG3 : Hid (IG w0.heap.size w0 w3 v3 (l ++ [(V : Int)])) := hg3
          have HL3 : Hid ((l ++ [(V : Int)]).length = k + 1) := by unfold Hid; rw [List.length_append, HL.out]; rfl
          simp only [ji, List.map_cons, List.map_nil, List.length_cons, List.length_nil, Nat.reduceAdd] at hrun
          have hwr : IntKind.i64.wrap (V : Int) = (V : Int) := by simp [IntKind.wrap, IntKind.bits, IntKind.signed]; omega
          have hwa : IntKind.i64.wrap ((a : Int) + (U : Int)) = (a : Int) + (U : Int) := by simp [IntKind.wrap, IntKind.bits, IntKind.signed]; omega
          clear hnx hg3 HFT HNX
          go_wp2_with (at_builtin; refine wpList_app_runG rfl _ _ 22 22 rfl rfl _ _ _ rfl rfl hrun ?_)
          go_roundw
          case rel => exact ⟨k + 1, a + U, _, by go_num, by omega, by omega, HL3, HK2, hs3, HG3⟩
          case measure => simp [intOf]; omega
      · have hE' : (E != 0) = true := by simpa using hE
        have HNo : Hid (edR b = none) := HK.out.bad hin.2 HAN.out (by rw [HNX.out, if_pos (.inl hE)])
        clear HFT hE
        go_wp2_with (refine stop_store 34 _ _ rfl ?_)
        refine Stop.of ?_
        refine wpList_storeN rfl _ _ _ rfl w.heap.size 0 [.slice none 0 0, .slice none 0 0, .int .i64 0, .int .i64 0, .int .i64 0] rfl rfl _ _ HZ2.out (by simp) (by kernel_rfl) (by kernel_rfl) ?_
        intro W9 hW9
        have HK9 := stW_all hW9 (by simp)
        have HB9 : Hid (Below w.heap.size w W9) := HB2.out.trans (hW9.b _ (Nat.le_refl _))
        clear hW9
        go_wp2_with fail
        refine bodyPost_ret (results_c13 rfl _ _ w.heap.size _ rfl (run_loadVar_row _ w.heap.size _ _ _ (0, 0) _ HK9 Tryd.underlying34 rfl (by kernel_rfl))) rfl ?_
        exact RdP.no HNo.out HB9.out
    · have HF : Hid (rdA 300 b = some (l, b.drop a)) := HK.out.fin hk (by rw [HN.out]; exact hin)
      have HEo : Hid (edR b = if b.drop a = [] then edL l else none) := edR_of HF.out
      by_cases haN : a < N
      · have ha' : (a : Int) < (N : Int) := by omega
        have hk3 : k = 300 := by omega
        have hk' : ¬ (k : Int) < 300 := by omega
        have HNo : Hid (edR b = none) := by
          unfold Hid
          rw [HEo.out, if_neg]
          intro e
          have := congrArg List.length e
          rw [List.length_drop, HN.out] at this
          simp at this
          omega
        clear hk3
        have HJ : Hid (JU wr (.slice la k lc) l) := gown_ju HG.out.o
        have HC : Hid (Calls Tryd.prog 24 #[.slice la k lc] wr (EdP l wr)) := refEdit_any _ l wr HJ.out (rdA_inv 300 HF.out).2 (by rw [HL.out]; exact hk)
        go_wp2_with fail
        refine HC.out.mono ?_
        rintro e w2 ⟨dv2, av2, hv2, he2, hb2, hab1, hab2⟩
        have HB2 : Hid (Below w.heap.size w w2) := HBw.out.trans (hb2.mono HBw.out.size)
        have hwl : w.heap.size < wr.heap.size := (Array.getElem?_eq_some_iff.1 HZr.out).1
        have HZ2 : Hid (w2.heap[w.heap.size]? = some (.cells #[.slice none 0 0, .slice none 0 0, .int .i64 0, .int .i64 0, .int .i64 0] 34)) := (hb2.block _ hwl).trans HZr.out
        have hwl2 : w.heap.size < w2.heap.size := (Array.getElem?_eq_some_iff.1 HZ2.out).1
        obtain ⟨da2, dc2, rfl, _⟩ := he2.d.form
        obtain ⟨aa2, ac2, rfl, _⟩ := he2.a.form
        obtain ⟨x, Hx⟩ := hid_ex ((edL l).getD edZ)
        obtain ⟨ok, Hok⟩ := hid_ex (edL l).isSome
        rw [← Hx.out, ← Hok.out] at hv2
        rw [← Hx.out] at he2
        obtain ⟨DL, HDL⟩ : ∃ n, Hid (x.dr.length = n) := ⟨_, rfl⟩
        obtain ⟨AL, HAL⟩ : ∃ n, Hid (x.ad.length = n) := ⟨_, rfl⟩
        rw [← Hx.out] at hab1 hab2
        rw [HDL.out] at hab1
        rw [HAL.out] at hab2
        rw [HDL.out, HAL.out] at hv2 he2
        subst hv2
        have HAb : Hid (AboveV wr.heap.size (.slice da2 DL dc2) ∧ AboveV wr.heap.size (.slice aa2 AL ac2)) := ⟨hab1, hab2⟩
        clear hab1 hab2
        have HE2 : Hid (EdR w2 (.slice da2 DL dc2) (.slice aa2 AL ac2) x) := he2
        clear hb2 he2 HC
        have HOne : Hid (([.slice da2 DL dc2, .slice aa2 AL ac2, .int .i64 x.lo, .int .i64 x.ne, .int .i64 x.ma] : List Value).toArray.all (·.oneCell') = true) := by unfold Hid; kernel_rfl
        go_wp2_with (refine stop_store 34 _ _ rfl ?_)
        refine Stop.of ?_
        refine wpList_storeN rfl _ _ _ rfl w2.heap.size 0 [.slice da2 DL dc2, .slice aa2 AL ac2, .int .i64 x.lo, .int .i64 x.ne, .int .i64 x.ma] rfl rfl _ _ (heap_alloc_new _ _) (by simp) (by kernel_rfl) HOne.out ?_
        intro w3 hw3
        obtain ⟨hb3, hx3, hl3⟩ := stW_nw hw3 (by simp)
        have HB3 : Hid (Below w.heap.size w w3) := HB2.out.trans (hb3.mono HB2.out.size)
        have HZ3 : Hid (w3.heap[w.heap.size]? = some (.cells #[.slice none 0 0, .slice none 0 0, .int .i64 0, .int .i64 0, .int .i64 0] 34)) := (hb3.block _ hwl2).trans HZ2.out
        have HE3 : Hid (EdR w3 (.slice da2 DL dc2) (.slice aa2 AL ac2) x) := HE2.out.below hb3
        have HX3 : Hid (w3.heap[w2.heap.size]? = some (.cells #[.slice da2 DL dc2, .slice aa2 AL ac2, .int .i64 x.lo, .int .i64 x.ne, .int .i64 x.ma] 34)) := hx3
        clear hw3 hb3 hx3
        obtain ⟨d0, d1, d2, d3, d4⟩ := five HX3.out
        cases ok with
        | true =>
          go_wp2_with (refine stop_store 34 _ _ rfl ?_)
          refine Stop.of ?_
          refine wpList_storeN rfl _ _ _ rfl w.heap.size 0 [.slice none 0 0, .slice none 0 0, .int .i64 0, .int .i64 0, .int .i64 0] rfl rfl _ _ HZ3.out (by simp) (by kernel_rfl) (by kernel_rfl) ?_
          intro W9 hW9
          have HK9 := stW_all hW9 (by simp)
          have HB9 : Hid (Below w.heap.size w W9) := HB3.out.trans (hW9.b _ (Nat.le_refl _))
          clear hW9
          go_wp2_with fail
          refine bodyPost_ret (results_c13 rfl _ _ w.heap.size _ rfl (run_loadVar_row _ w.heap.size _ _ _ (0, 0) _ HK9 Tryd.underlying34 rfl (by kernel_rfl))) rfl ?_
          exact RdP.no HNo.out HB9.out
        | false =>
          go_wp2_with (refine stop_store 34 _ _ rfl ?_)
          refine Stop.of ?_
          refine wpList_storeN rfl _ _ _ rfl w.heap.size 0 [.slice none 0 0, .slice none 0 0, .int .i64 0, .int .i64 0, .int .i64 0] rfl rfl _ _ HZ3.out (by simp) (by kernel_rfl) (by kernel_rfl) ?_
          intro W9 hW9
          have HK9 := stW_all hW9 (by simp)
          have HB9 : Hid (Below w.heap.size w W9) := HB3.out.trans (hW9.b _ (Nat.le_refl _))
          clear hW9
          go_wp2_with fail
          refine bodyPost_ret (results_c13 rfl _ _ w.heap.size _ rfl (run_loadVar_row _ w.heap.size _ _ _ (0, 0) _ HK9 Tryd.underlying34 rfl (by kernel_rfl))) rfl ?_
          exact RdP.no HNo.out HB9.out
      · have ha' : ¬ (a : Int) < (N : Int) := by omega
        have HEl : Hid (edR b = edL l) := by
          unfold Hid
          rw [HEo.out, if_pos (List.drop_eq_nil_of_le (by rw [HN.out]; omega))]
        have HJ : Hid (JU wr (.slice la k lc) l) := gown_ju HG.out.o
        have HC : Hid (Calls Tryd.prog 24 #[.slice la k lc] wr (EdP l wr)) := refEdit_any _ l wr HJ.out (rdA_inv 300 HF.out).2 (by rw [HL.out]; exact hk)
        go_wp2_with fail
        refine HC.out.mono ?_
        rintro e w2 ⟨dv2, av2, hv2, he2, hb2, hab1, hab2⟩
        have HB2 : Hid (Below w.heap.size w w2) := HBw.out.trans (hb2.mono HBw.out.size)
        have hwl : w.heap.size < wr.heap.size := (Array.getElem?_eq_some_iff.1 HZr.out).1
        have HZ2 : Hid (w2.heap[w.heap.size]? = some (.cells #[.slice none 0 0, .slice none 0 0, .int .i64 0, .int .i64 0, .int .i64 0] 34)) := (hb2.block _ hwl).trans HZr.out
        have hwl2 : w.heap.size < w2.heap.size := (Array.getElem?_eq_some_iff.1 HZ2.out).1
        obtain ⟨da2, dc2, rfl, _⟩ := he2.d.form
        obtain ⟨aa2, ac2, rfl, _⟩ := he2.a.form
        obtain ⟨x, Hx⟩ := hid_ex ((edL l).getD edZ)
        obtain ⟨ok, Hok⟩ := hid_ex (edL l).isSome
        rw [← Hx.out, ← Hok.out] at hv2
        rw [← Hx.out] at he2
        obtain ⟨DL, HDL⟩ : ∃ n, Hid (x.dr.length = n) := ⟨_, rfl⟩
        obtain ⟨AL, HAL⟩ : ∃ n, Hid (x.ad.length = n) := ⟨_, rfl⟩
        rw [← Hx.out] at hab1 hab2
        rw [HDL.out] at hab1
        rw [HAL.out] at hab2
        rw [HDL.out, HAL.out] at hv2 he2
        subst hv2
        have HAb : Hid (AboveV wr.heap.size (.slice da2 DL dc2) ∧ AboveV wr.heap.size (.slice aa2 AL ac2)) := ⟨hab1, hab2⟩
        clear hab1 hab2
        have HE2 : Hid (EdR w2 (.slice da2 DL dc2) (.slice aa2 AL ac2) x) := he2
        clear hb2 he2 HC
        have HOne : Hid (([.slice da2 DL dc2, .slice aa2 AL ac2, .int .i64 x.lo, .int .i64 x.ne, .int .i64 x.ma] : List Value).toArray.all (·.oneCell') = true) := by unfold Hid; kernel_rfl
        go_wp2_with (refine stop_store 34 _ _ rfl ?_)
        refine Stop.of ?_
        refine wpList_storeN rfl _ _ _ rfl w2.heap.size 0 [.slice da2 DL dc2, .slice aa2 AL ac2, .int .i64 x.lo, .int .i64 x.ne, .int .i64 x.ma] rfl rfl _ _ (heap_alloc_new _ _) (by simp) (by kernel_rfl) HOne.out ?_
        intro w3 hw3
        obtain ⟨hb3, hx3, hl3⟩ := stW_nw hw3 (by simp)
        have HB3 : Hid (Below w.heap.size w w3) := HB2.out.trans (hb3.mono HB2.out.size)
        have HZ3 : Hid (w3.heap[w.heap.size]? = some (.cells #[.slice none 0 0, .slice none 0 0, .int .i64 0, .int .i64 0, .int .i64 0] 34)) := (hb3.block _ hwl2).trans HZ2.out
        have HE3 : Hid (EdR w3 (.slice da2 DL dc2) (.slice aa2 AL ac2) x) := HE2.out.below hb3
        have HX3 : Hid (w3.heap[w2.heap.size]? = some (.cells #[.slice da2 DL dc2, .slice aa2 AL ac2, .int .i64 x.lo, .int .i64 x.ne, .int .i64 x.ma] 34)) := hx3
        clear hw3 hb3 hx3
        obtain ⟨d0, d1, d2, d3, d4⟩ := five HX3.out
        cases hed : edL l with
        | none =>
          have hok0 : ok = false := by rw [Hok.out, hed]; rfl
          subst hok0
          have HNo : Hid (edR b = none) := HEl.out.trans hed
          clear hed
          go_wp2_with (refine stop_store 34 _ _ rfl ?_)
          refine Stop.of ?_
          refine wpList_storeN rfl _ _ _ rfl w.heap.size 0 [.slice none 0 0, .slice none 0 0, .int .i64 0, .int .i64 0, .int .i64 0] rfl rfl _ _ HZ3.out (by simp) (by kernel_rfl) (by kernel_rfl) ?_
          intro W9 hW9
          have HK9 := stW_all hW9 (by simp)
          have HB9 : Hid (Below w.heap.size w W9) := HB3.out.trans (hW9.b _ (Nat.le_refl _))
          clear hW9
          go_wp2_with fail
          refine bodyPost_ret (results_c13 rfl _ _ w.heap.size _ rfl (run_loadVar_row _ w.heap.size _ _ _ (0, 0) _ HK9 Tryd.underlying34 rfl (by kernel_rfl))) rfl ?_
          exact RdP.no HNo.out HB9.out
        | some y =>
          have hok0 : ok = true := by rw [Hok.out, hed]; rfl
          have hxy : x = y := by rw [Hx.out, hed]; rfl
          subst hok0
          subst hxy
          have HYs : Hid (edR b = some x) := HEl.out.trans hed
          clear hed
          go_wp2_with (refine stop_store 34 _ _ rfl ?_)
          refine Stop.of ?_
          refine wpList_storeN rfl _ _ _ rfl w.heap.size 0 [.slice da2 DL dc2, .slice aa2 AL ac2, .int .i64 x.lo, .int .i64 x.ne, .int .i64 x.ma] rfl rfl _ _ HZ3.out (by simp) (by kernel_rfl) HOne.out ?_
          intro W9 hW9
          have HK9 := stW_all hW9 (by simp)
          have HB9 : Hid (Below w.heap.size w W9) := HB3.out.trans (hW9.b _ (Nat.le_refl _))
          have HO9 : Hid (∀ k, k ≠ w.heap.size → W9.heap[k]? = w3.heap[k]?) := hW9.o
          clear hW9
          go_wp2_with fail
          refine bodyPost_ret (results_c13 rfl _ _ w.heap.size _ rfl (run_loadVar_row _ w.heap.size _ _ _ (0, 0) _ HK9 Tryd.underlying34 rfl (by kernel_rfl))) rfl ?_
          refine ⟨_, _, by rw [HYs.out]; rfl, ?_, HB9.out⟩
          rw [HYs.out]
          exact ⟨HE3.out.d.keepB fun b' off' n' c' e => HO9.out b' (by have := HAb.out.1 b' off' n' c' e; omega), HE3.out.a.keepB fun b' off' n' c' e => HO9.out b' (by have := HAb.out.2 b' off' n' c' e; omega)⟩
end Go.Proofs.YtoibfepnecppmaaDoor
