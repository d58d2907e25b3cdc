/- MS1 ML4 MS2 ML5 MS3, joined. -/
import Derived.Test.YtilbffgpniomcaaGreatDoorLD5
import Derived.Test.YtilbffgpniomcaaGreatDoorLD15
import Derived.Test.YtilbffgpniomcaaGreatDoorLD18
import Derived.Test.YtilbffgpniomcaaGreatDoorLD22
import Derived.Test.YtilbffgpniomcaaGreatDoorLD26
import Derived.Test.YtilbffgpniomcaaGreatDoorLD27
import Derived.Test.YtilbffgpniomcaaGreatDoorLD28
/- manifest over a file system: its calls, plainly. -/
namespace Go.Proofs.YtilbffgpniomcaaGreatDoor
open Go.RowKit Go.Shelf

def man : List UInt8 := [109, 97, 110, 45]
def newN : List UInt8 := [99, 117, 114, 114, 101, 110, 116, 46, 110, 101, 119]
def sfThen (r : Int × SfS) (k : SfS → Int × SfS) : Int × SfS := if r.1 = 0 then k r.2 else r
theorem sfThen_ok {r : Int × SfS} (h : r.1 = 0) (k : SfS → Int × SfS) : sfThen r k = k r.2 := by unfold sfThen; rw [if_pos h]
theorem sfThen_no {r : Int × SfS} (h : r.1 ≠ 0) (k : SfS → Int × SfS) : sfThen r k = r := by unfold sfThen; rw [if_neg h]
theorem sfThen_0 (t : SfS) (k : SfS → Int × SfS) : sfThen (0, t) k = k t := sfThen_ok rfl k
def mfExt (s : SfS) (nm d : List UInt8) : Int × SfS := sfThen (sfAppend s nm (frm d)) fun t => sfSync t nm
def mfCre (s : SfS) (nm d : List UInt8) : Int × SfS := sfThen (sfCreate s nm) fun t => mfExt t nm d
def edS (st : St) : Ed := ⟨[], st.ru, st.lo, st.ne, st.ma⟩
def stB (st : St) : List UInt8 := shB (nmE (edS st))
def mfPt (s : SfS) (n : Int) : Int × SfS := sfThen (mfCre s newN (sh n.toNat)) fun t => sfThen (sfRename t newN curN) sfSyncDir
def mfRm (s : SfS) (n : Int) : Int × SfS := if (sfRemove s newN).1 = 0 ∨ (sfRemove s newN).1 = 4 then mfPt (sfRemove s newN).2 n else sfRemove s newN
def mfSv (s : SfS) (n : Int) (st : St) : Int × SfS := sfThen (mfCre s (nmF man n) (stB st)) fun t => sfThen (sfSyncDir t) fun u => mfRm u n
/-- What Save does. -/
def mfSave (s : SfS) (n : Int) (st : St) : Int × SfS := if okSt st ∧ isNo n = true then mfSv s n st else (1, s)
/-- What Append does. -/
def mfApp (s : SfS) (n : Int) (x : Ed) : Int × SfS := match edW x with
  | none => (100, s)
  | some b => mfExt s (nmF man n) b
/-- What Load tells. -/
def mfLd (s : SfS) : Option (St × Int) × Int := match sfLook curN s.dir with
  | none => (none, 4)
  | some _ => match ptF (sfRead s curN) with
    | none => (none, 114)
    | some n => match rpS (sfRead s (nmF man n)) with
      | none => (none, 114)
      | some st => (some (st, n), 0)
theorem man_len {n : Int} : (nmF man n).length ≤ 17 := by
  by_cases h : 1 ≤ n ∧ n ≤ 1099511627776
  · rw [nmF_yes h.1 h.2, List.length_append]
    have := dec_len (n := n.toNat) (by omega)
    have : man.length = 4 := rfl
    omega
  · rw [nmF_no h]; simp
theorem man_name {n : Int} (h : isNo n = true) : sfName (nmF man n) = true := by
  obtain ⟨h1, h2⟩ := isNo_iff.1 h
  have hl := man_len (n := n)
  have hd := dec_digit n.toNat
  rw [nmF_yes h1 h2] at hl ⊢
  unfold sfName
  rw [Bool.and_eq_true, Bool.and_eq_true]
  refine ⟨⟨decide_eq_true (by rw [List.length_append]; have : man.length = 4 := rfl; omega), decide_eq_true (by omega)⟩, ?_⟩
  rw [List.all_append, Bool.and_eq_true]
  refine ⟨by decide, ?_⟩
  rw [List.all_eq_true]
  intro c hc
  obtain ⟨g1, g2⟩ := hd c hc
  unfold sfOkC
  rw [decide_eq_true g1, decide_eq_true g2]
  simp
theorem man_front {n : Int} (h : isNo n = true) : ∃ r, nmF man n = 109 :: r := by
  obtain ⟨h1, h2⟩ := isNo_iff.1 h
  exact ⟨_, nmF_yes h1 h2⟩
theorem cur_ne {n : Int} (h : isNo n = true) : curN ≠ nmF man n := by
  obtain ⟨r, e⟩ := man_front h
  rw [e]
  unfold curN
  simp
theorem new_ne {n : Int} (h : isNo n = true) : newN ≠ nmF man n := by
  obtain ⟨r, e⟩ := man_front h
  rw [e]
  unfold newN
  simp
theorem cur_bef {n : Int} (h : isNo n = true) : bytesBefore curN (nmF man n) = true := by
  obtain ⟨r, e⟩ := man_front h
  rw [e]
  unfold curN
  simp [bytesBefore]
theorem new_bef {n : Int} (h : isNo n = true) : bytesBefore newN (nmF man n) = true := by
  obtain ⟨r, e⟩ := man_front h
  rw [e]
  unfold newN
  simp [bytesBefore]
theorem bef_cur {n : Int} (h : isNo n = true) : bytesBefore (nmF man n) curN = false := by
  obtain ⟨r, e⟩ := man_front h
  rw [e]
  unfold curN
  simp [bytesBefore]
end Go.Proofs.YtilbffgpniomcaaGreatDoor

/- The reference of layer 13: Log, Pointed, Name (written by mkml4.py). -/
namespace Go.Proofs.YtilbffgpniomcaaGreatDoor
open Go.RowKit Go.Shelf

set_option maxRecDepth 100000 in
set_option maxHeartbeats 4000000 in
theorem refLog_any (bv : Value) (b : List UInt8) (hbl : b.length ≤ 2000) (w : World) (h : Reads w bv b) : Calls Tryz.prog 13 #[bv] w (RpP (rpF (fmS b) st0 false) w) := by
  obtain ⟨ba, bcp, rfl, _⟩ := h.form
  have hAll := refAll_any _ b (by omega) (w.alloc (.cells #[.slice none 0 0, .int .i64 0, .int .i64 0, .int .i64 0] 38)) (h.below ((Below.refl _ _).alloc (Nat.le_refl _) _))
  have HFm : Hid (∀ d ∈ fmS b, d.length ≤ 2000) := fun d hd => by
    unfold fmS at hd
    obtain ⟨x, hx, rfl⟩ := List.mem_map.1 hd
    have := alF_len _ _ x hx
    omega
  obtain ⟨BL, HBL⟩ := hid_ex b.length
  rw [← HBL.out] at hAll ⊢
  rw [HBL.out] at hAll
  obtain ⟨KS, HKS⟩ := hid_ex (ksum (alF (b.length + 1) b))
  rw [← HKS.out, ← HBL.out] at hAll
  have HAll : Hid (Calls Tryz.prog 40 #[.slice ba BL bcp] (w.alloc (.cells #[.slice none 0 0, .int .i64 0, .int .i64 0, .int .i64 0] 38)) _) := hAll
  obtain ⟨R, HR⟩ := hid_ex (rpF (fmS b) st0 false)
  rw [← HR.out]
  clear h hAll
  go_enter Tryz.func13, Tryz.ntmps13
  go_wp2_with fail
  refine HAll.out.mono ?_
  rintro e W1 ⟨vl, xs, rfl, hxs, hrow, hown, hb1⟩
  have hD : DsR W1 vl (fmS b) := by rw [HBL.out] at hxs; rw [← fm_of hxs]; exact dsr_of hrow hown
  obtain ⟨ds, Hds⟩ := hid_ex (fmS b)
  rw [← Hds.out] at hD HR HFm
  obtain ⟨fa, fcp, hvl, hfm⟩ := hD.form
  subst hvl
  obtain ⟨FL, HFL⟩ : ∃ n, Hid (ds.length = n) := ⟨_, rfl⟩
  rw [HFL.out] at hD hfm ⊢
  unfold maxLen at hfm
  have HD : Hid (DsR W1 (.slice fa FL fcp) ds) := hD
  have HB1 : Hid (Below w.heap.size w W1) := ((Below.refl _ _).alloc (Nat.le_refl _) _).trans (hb1.mono (by simp))
  have hz1 : w.heap.size < W1.heap.size := by have := hb1.size; simp at this; omega
  have HA1 : Hid (W1.heap[w.heap.size]? = some (.cells #[.slice none 0 0, .int .i64 0, .int .i64 0, .int .i64 0] 38)) := (hb1.block _ (by simp)).trans (heap_alloc_new _ _)
  clear hrow hown hb1 hxs hD HAll HKS Hds
  go_wp2_with (refine stop_store 38 _ _ rfl ?_)
  refine Stop.of ?_
  refine wpList_storeN rfl _ _ _ rfl W1.heap.size 0 [.slice none 0 0, .int .i64 1, .int .i64 2, .int .i64 0] rfl rfl _ _ (heap_alloc_new _ _) (by simp) (by kernel_rfl) (by kernel_rfl) ?_
  intro W2 hW2
  obtain ⟨hb2, hp2, _⟩ := stW_nw hW2 (by simp)
  have HB2 : Hid (Below W1.heap.size W1 W2) := hb2
  have HP2 : Hid (W2.heap[W1.heap.size]? = some (.cells #[.slice none 0 0, .int .i64 1, .int .i64 2, .int .i64 0] 38)) := hp2
  obtain ⟨P, HPe⟩ := hid_ex W1.heap.size
  rw [← HPe.out]
  clear hW2 hb2 hp2
  go_wp2_with fail
  go_loopw [7] (fun iv wr => ∃ (j SL sc : Nat) (sa : Option Addr) (s : St), iv = .int .i64 (j : Int) ∧ j ≤ FL ∧ Hid (s.ru.length = SL) ∧ Hid (UR wr (.slice sa SL sc) s.ru) ∧ Hid (notP P (.slice sa SL sc) s.ru ∧ ∀ Q, Q ≤ w.heap.size → notP Q (.slice sa SL sc) s.ru) ∧ Hid (okSt s ∧ R = rpF (ds.drop j) s (decide (0 < j))) ∧ Hid (wr.heap[P]? = some (.cells #[.slice sa SL sc, .int .i64 s.lo, .int .i64 s.ne, .int .i64 s.ma] 38)) ∧ Hid (Below P W1 wr)) (fun iv _ => FL - (intOf iv).toNat)
  case atStart => exact ⟨0, 0, 0, none, st0, rfl, by omega, rfl, ur_nil _, ⟨fun h => by simp [st0] at h, fun _ _ h => by simp [st0] at h⟩, ⟨st0_ok, HR.out⟩, by unfold Hid; rw [HPe.out]; exact HP2.out, by unfold Hid; rw [HPe.out]; exact HB2.out⟩
  case round =>
    clear HP2 HB2 HR
    obtain ⟨j, SL, sc, sa, s, rfl, hj, HSL, HU, HN, HI, HP, HB⟩ := hrel
    have hPz : P < wr.heap.size := (Array.getElem?_eq_some_iff.1 HP.out).1
    have hwP : w.heap.size < P := by rw [HPe.out]; exact hz1
    have HA : Hid (wr.heap[w.heap.size]? = some (.cells #[.slice none 0 0, .int .i64 0, .int .i64 0, .int .i64 0] 38)) := (HB.out.block _ hwP).trans HA1.out
    have HBw : Hid (Below w.heap.size w wr) := HB1.out.trans (HB.out.mono (by omega))
    have HOn : Hid (([.slice sa SL sc, .int .i64 s.lo, .int .i64 s.ne, .int .i64 s.ma] : List Value).toArray.all (·.oneCell') = true) := by unfold Hid; kernel_rfl
    obtain ⟨p0, p1, p2, p3⟩ := four13 HP.out
    by_cases hlt : j < FL
    · have hlt' : (j : Int) < (FL : Int) := by omega
      have hjl : j < ds.length := by rw [HFL.out]; exact hlt
      obtain ⟨d, Hd⟩ := hid_ex ds[j]
      have Hdl : Hid (d.length ≤ 2000) := by unfold Hid; rw [Hd.out]; exact HFm.out _ (List.getElem_mem hjl)
      have Hdr : Hid (ds.drop j = d :: ds.drop (j + 1)) := by unfold Hid; rw [Hd.out]; exact List.drop_eq_getElem_cons hjl
      obtain ⟨g, u, hfa, hg, hc, hrd⟩ := (HD.out.below (by rw [HPe.out] at HB; exact HB.out)).at hjl Hd.out
      obtain ⟨ua, uc, hu, hum⟩ := hrd.form
      subst hu
      subst hfa
      have HRd := refRead13_any _ d wr hrd Hdl.out
      obtain ⟨UL, HUL⟩ := hid_ex d.length
      rw [← HUL.out] at HRd hc
      have HRd' : Hid (Calls Tryz.prog 41 #[.slice ua UL uc] wr _) := HRd
      clear HRd hrd hum
      go_wp2_with fail
      refine HRd'.out.mono ?_
      clear HRd' hc
      rintro e W3 ⟨dv, av, rfl, hed, hb3⟩
      obtain ⟨da, dc, hdv, hdm⟩ := hed.d.form
      obtain ⟨aa, ac, hav, ham⟩ := hed.a.form
      subst hdv
      subst hav
      obtain ⟨X, HX⟩ := hid_ex ((edR d).getD edZ)
      obtain ⟨EE, HEE⟩ := hid_ex (edE (edR d))
      rw [← HX.out] at hed hdm ham ⊢
      rw [← HEE.out]
      obtain ⟨DL, HDL⟩ : ∃ n, Hid (X.dr.length = n) := ⟨_, rfl⟩
      obtain ⟨AL, HAL⟩ : ∃ n, Hid (X.ad.length = n) := ⟨_, rfl⟩
      rw [HDL.out, HAL.out] at hed
      rw [HDL.out, HAL.out]
      have HEd : Hid (EdR W3 (.slice da DL dc) (.slice aa AL ac) X) := hed
      have HXl : Hid (X.ad.length ≤ 900) := by
        unfold Hid
        rw [HX.out]
        cases he : edR d with
        | none => simp [edZ]
        | some x => exact Nat.le_trans (edR_len he).2 (by decide)
      have HB3 : Hid (Below wr.heap.size wr W3) := hb3
      have hz3 := hb3.size
      have HOn2 : Hid (([.slice da DL dc, .slice aa AL ac, .int .i64 X.lo, .int .i64 X.ne, .int .i64 X.ma] : List Value).toArray.all (·.oneCell') = true) := by unfold Hid; kernel_rfl
      clear hed hb3 hdm ham
      go_wp2_with (refine stop_store 56 _ _ rfl ?_)
      refine Stop.of ?_
      refine wpList_storeN rfl _ _ _ rfl W3.heap.size 0 [.slice da DL dc, .slice aa AL ac, .int .i64 X.lo, .int .i64 X.ne, .int .i64 X.ma] rfl rfl _ _ (heap_alloc_new _ _) (by simp) (by kernel_rfl) HOn2.out ?_
      intro W4 hW4
      obtain ⟨hb4, hx4, hz4⟩ := stW_nw hW4 (by simp)
      have HB4 : Hid (Below wr.heap.size wr W4) := HB3.out.trans (hb4.mono hz3)
      have HU4 : Hid (UR W4 (.slice sa SL sc) s.ru) := HU.out.below HB4.out
      have HP4 : Hid (W4.heap[P]? = some (.cells #[.slice sa SL sc, .int .i64 s.lo, .int .i64 s.ne, .int .i64 s.ma] 38)) := (HB4.out.block _ hPz).trans HP.out
      have HA4 : Hid (W4.heap[w.heap.size]? = some (.cells #[.slice none 0 0, .int .i64 0, .int .i64 0, .int .i64 0] 38)) := (HB4.out.block _ (by omega)).trans HA.out
      have HBw4 : Hid (Below w.heap.size w W4) := HBw.out.trans (HB4.out.mono HBw.out.size)
      have HEd4 : Hid (EdR W4 (.slice da DL dc) (.slice aa AL ac) X) := HEd.out.below hb4
      have HX4 : Hid (W4.heap[W3.heap.size]? = some (.cells #[.slice da DL dc, .slice aa AL ac, .int .i64 X.lo, .int .i64 X.ne, .int .i64 X.ma] 56)) := hx4
      have HBP4 : Hid (Below P W1 W4) := HB.out.trans (HB4.out.mono (by omega))
      clear hW4 hb4 hx4 HEd HB3 p0 p1 p2 p3
      obtain ⟨p0, p1, p2, p3⟩ := four13 HP4.out
      obtain ⟨q0, q1, q2, q3, q4⟩ := five HX4.out
      have HAp := refApplyF_any _ _ _ s X W4 HU4.out HEd4.out.d HEd4.out.a (Nat.le_trans HI.out.1.2.2.2.2.2.1 (by decide)) HXl.out
      have HAp' : Hid (Calls Tryz.prog 20 #[.agg #[.slice sa SL sc, .int .i64 s.lo, .int .i64 s.ne, .int .i64 s.ma], .agg #[.slice da DL dc, .slice aa AL ac, .int .i64 X.lo, .int .i64 X.ne, .int .i64 X.ma]] W4 _) := HAp
      clear HAp
      go_wp2_with fail
      refine HAp'.out.mono ?_
      clear HAp' p0 p1 p2 p3 q0 q1 q2 q3 q4
      rintro e W5 ⟨v5, rfl, hu5, hb5, hn5⟩
      obtain ⟨a5, c5, hv5, _⟩ := hu5.r.form
      subst hv5
      obtain ⟨T, HT⟩ := hid_ex ((apS s X).1.getD stZ)
      obtain ⟨E5, HE5⟩ := hid_ex (apS s X).2
      rw [← HT.out] at hu5 hn5 ⊢
      rw [← HE5.out]
      obtain ⟨L5, HL5⟩ : ∃ n, Hid (T.ru.length = n) := ⟨_, rfl⟩
      rw [HL5.out] at hu5 hn5 ⊢
      have HU5 : Hid (UR W5 (.slice a5 L5 c5) T.ru) := hu5
      have HB5 : Hid (Below W4.heap.size W4 W5) := hb5
      have hz5 := hb5.size
      have HN5 : Hid (notP P (.slice a5 L5 c5) T.ru ∧ ∀ Q, Q ≤ w.heap.size → notP Q (.slice a5 L5 c5) T.ru) := ⟨hn5 P (by have := HB4.out.size; omega) HN.out.1, fun Q hQ => hn5 Q (by have := HB4.out.size; omega) (HN.out.2 Q hQ)⟩
      have HOn5 : Hid (([.slice a5 L5 c5, .int .i64 T.lo, .int .i64 T.ne, .int .i64 T.ma] : List Value).toArray.all (·.oneCell') = true) := by unfold Hid; kernel_rfl
      clear hu5 hb5 hn5
      go_wp2_with (refine stop_store 38 _ _ rfl ?_)
      refine Stop.of ?_
      refine wpList_storeN rfl _ _ _ rfl W5.heap.size 0 [.slice a5 L5 c5, .int .i64 T.lo, .int .i64 T.ne, .int .i64 T.ma] rfl rfl _ _ (heap_alloc_new _ _) (by simp) (by kernel_rfl) HOn5.out ?_
      intro W6 hW6
      obtain ⟨hb6, hx6, hz6⟩ := stW_nw hW6 (by simp)
      have HB46 : Hid (Below W4.heap.size W4 W6) := HB5.out.trans (hb6.mono hz5)
      have HU6 : Hid (UR W6 (.slice a5 L5 c5) T.ru) := HU5.out.below hb6
      have HU6s : Hid (UR W6 (.slice sa SL sc) s.ru) := HU4.out.below HB46.out
      have hP4z : P < W4.heap.size := by have := HB4.out.size; omega
      have HP6 : Hid (W6.heap[P]? = some (.cells #[.slice sa SL sc, .int .i64 s.lo, .int .i64 s.ne, .int .i64 s.ma] 38)) := (HB46.out.block _ hP4z).trans HP4.out
      have HA6 : Hid (W6.heap[w.heap.size]? = some (.cells #[.slice none 0 0, .int .i64 0, .int .i64 0, .int .i64 0] 38)) := (HB46.out.block _ (by omega)).trans HA4.out
      have HBw6 : Hid (Below w.heap.size w W6) := HBw4.out.trans (HB46.out.mono HBw4.out.size)
      have HBP6 : Hid (Below P W1 W6) := HBP4.out.trans (HB46.out.mono (by omega))
      have HX6 : Hid (W6.heap[W5.heap.size]? = some (.cells #[.slice a5 L5 c5, .int .i64 T.lo, .int .i64 T.ne, .int .i64 T.ma] 38)) := hx6
      clear hW6 hb6 hx6 HB5 HU5 HU4 HEd4 HX4
      cases hed : edR d with
      | none =>
        have hE : EE = 100 := by rw [HEE.out, hed]; rfl
        have HQ : Hid (R = (s, decide (0 < j))) := by unfold Hid; rw [HI.out.2, Hdr.out, rpF_no _ _ _ hed]
        subst hE
        clear HEE HX hed
        obtain ⟨p0, p1, p2, p3⟩ := four13 HP6.out
        go_wp2_with (refine stop_store 38 _ _ rfl ?_)
        refine Stop.of ?_
        refine wpList_storeN rfl _ _ _ rfl w.heap.size 0 [.slice sa SL sc, .int .i64 s.lo, .int .i64 s.ne, .int .i64 s.ma] rfl rfl _ _ HA6.out (by simp) (by kernel_rfl) HOn.out ?_
        intro W9 hW9
        have HK9 := stW_all hW9 (by simp)
        have HB9 : Hid (Below w.heap.size w W9) := HBw6.out.trans (hW9.b _ (Nat.le_refl _))
        have HU9 : Hid (UR W9 (.slice sa SL sc) s.ru) := ⟨HU6s.out.r.keepC fun h0 b off n c e => hW9.o b (HN.out.2 _ (Nat.le_refl _) h0 b off n c e), HU6s.out.c, HU6s.out.z⟩
        clear hW9
        go_wp2_with fail
        refine bodyPost_ret (results_c13 rfl _ _ w.heap.size _ rfl (run_loadVar_row _ w.heap.size _ _ _ (0, 0) _ HK9 Tryz.underlying38 rfl (by kernel_rfl))) rfl ?_
        exact ⟨_, by rw [HQ.out]; first | rfl | (simp; done), by rw [HQ.out]; exact HU9.out, HB9.out, by rw [HQ.out]; exact fun Q hQ => HN.out.2 Q (Nat.le_of_lt hQ)⟩
      | some x =>
        have hE : EE = 0 := by rw [HEE.out, hed]; rfl
        have hXx : X = x := by rw [HX.out, hed]; rfl
        subst hXx
        have HEr : Hid (edR d = some X) := hed
        subst hE
        clear HEE HX hed
        rcases apS_cases s X with ⟨t, ht⟩ | ⟨c, ht, hc⟩
        · have hE : E5 = 0 := by rw [HE5.out, ht]
          have hTt : T = t := by rw [HT.out, ht]; rfl
          subst hTt
          have HQ : Hid (R = rpF (ds.drop (j + 1)) T (decide (0 < j + 1))) := by unfold Hid; rw [HI.out.2, Hdr.out, rpF_on _ _ _ HEr.out (by rw [ht]), show decide (0 < j + 1) = true from decide_eq_true (by omega)]
          have HOk : Hid (okSt T) := (apS_ok ht).ok
          subst hE
          clear HE5 HT ht
          obtain ⟨p0, p1, p2, p3⟩ := four13 HX6.out
          go_wp2_with (refine stop_store 38 _ _ rfl ?_)
          refine Stop.of ?_
          refine wpList_storeN rfl _ _ _ rfl P 0 [.slice a5 L5 c5, .int .i64 T.lo, .int .i64 T.ne, .int .i64 T.ma] rfl rfl _ _ HP6.out (by simp) (by kernel_rfl) HOn5.out ?_
          intro W7 hW7
          have HK7 := stW_all hW7 (by simp)
          have HU7 : Hid (UR W7 (.slice a5 L5 c5) T.ru) := ⟨HU6.out.r.keepC fun h0 b off n c e => hW7.o b (HN5.out.1 h0 b off n c e), HU6.out.c, HU6.out.z⟩
          have HBP7 : Hid (Below P W1 W7) := HBP6.out.trans (hW7.b _ (Nat.le_refl _))
          clear hW7 p0 p1 p2 p3
          go_wp2_with fail
          go_roundw
          case rel => exact ⟨j + 1, L5, c5, a5, T, by go_num, by omega, HL5, HU7, HN5, ⟨HOk.out, HQ.out⟩, HK7, HBP7⟩
          case measure => simp [intOf]; omega
        · have hE : E5 = c := by rw [HE5.out, ht]
          have HQ : Hid (R = (s, decide (0 < j))) := by unfold Hid; rw [HI.out.2, Hdr.out, rpF_stop _ _ _ HEr.out (by rw [ht])]
          have hc0 : ¬ c = 0 := by omega
          have hc' : (c != 0) = true := by simpa using hc0
          subst hE
          clear HT ht HE5
          obtain ⟨p0, p1, p2, p3⟩ := four13 HP6.out
          go_wp2_with (refine stop_store 38 _ _ rfl ?_)
          refine Stop.of ?_
          refine wpList_storeN rfl _ _ _ rfl w.heap.size 0 [.slice sa SL sc, .int .i64 s.lo, .int .i64 s.ne, .int .i64 s.ma] rfl rfl _ _ HA6.out (by simp) (by kernel_rfl) HOn.out ?_
          intro W9 hW9
          have HK9 := stW_all hW9 (by simp)
          have HB9 : Hid (Below w.heap.size w W9) := HBw6.out.trans (hW9.b _ (Nat.le_refl _))
          have HU9 : Hid (UR W9 (.slice sa SL sc) s.ru) := ⟨HU6s.out.r.keepC fun h0 b off n c e => hW9.o b (HN.out.2 _ (Nat.le_refl _) h0 b off n c e), HU6s.out.c, HU6s.out.z⟩
          clear hW9
          go_wp2_with fail
          refine bodyPost_ret (results_c13 rfl _ _ w.heap.size _ rfl (run_loadVar_row _ w.heap.size _ _ _ (0, 0) _ HK9 Tryz.underlying38 rfl (by kernel_rfl))) rfl ?_
          exact ⟨_, by rw [HQ.out]; first | rfl | (simp; done), by rw [HQ.out]; exact HU9.out, HB9.out, by rw [HQ.out]; exact fun Q hQ => HN.out.2 Q (Nat.le_of_lt hQ)⟩
    · have hlt' : ¬ (j : Int) < (FL : Int) := by omega
      obtain rfl : j = FL := by omega
      have HQ : Hid (R = (s, decide (0 < j))) := by unfold Hid; rw [HI.out.2, List.drop_eq_nil_of_le (by rw [HFL.out]; omega)]; rfl
      go_wp2_with (refine stop_store 38 _ _ rfl ?_)
      refine Stop.of ?_
      refine wpList_storeN rfl _ _ _ rfl w.heap.size 0 [.slice sa SL sc, .int .i64 s.lo, .int .i64 s.ne, .int .i64 s.ma] rfl rfl _ _ HA.out (by simp) (by kernel_rfl) HOn.out ?_
      intro W9 hW9
      have HK9 := stW_all hW9 (by simp)
      have HB9 : Hid (Below w.heap.size w W9) := HBw.out.trans (hW9.b _ (Nat.le_refl _))
      have HU9 : Hid (UR W9 (.slice sa SL sc) s.ru) := ⟨HU.out.r.keepC fun h0 b off n c e => hW9.o b (HN.out.2 _ (Nat.le_refl _) h0 b off n c e), HU.out.c, HU.out.z⟩
      clear hW9
      go_wp2_with fail
      refine bodyPost_ret (results_c13 rfl _ _ w.heap.size _ rfl (run_loadVar_row _ w.heap.size _ _ _ (0, 0) _ HK9 Tryz.underlying38 rfl (by kernel_rfl))) rfl ?_
      exact ⟨_, by rw [HQ.out]; first | rfl | (simp; done), by rw [HQ.out]; exact HU9.out, HB9.out, by rw [HQ.out]; exact fun Q hQ => HN.out.2 Q (Nat.le_of_lt hQ)⟩
set_option maxRecDepth 100000 in
theorem refName13_any (n : Int) (w : World) : Calls Tryz.prog 11 #[.int .i64 n] w fun e w' => e = .returned (.string ⟨(nmF man n).toArray⟩) ∧ Below w.heap.size w w' := by
  have HC : Hid (Calls Tryz.prog 36 #[.string ⟨man.toArray⟩, .int .i64 n] w _) := refName_any man (by decide) n w
  unfold man at HC
  go_enter Tryz.func11, Tryz.ntmps11
  go_wp2_with fail
  refine HC.out.mono ?_
  rintro e w' ⟨rfl, hb⟩
  go_wp2_with fail
  go_ret
  exact ⟨rfl, hb⟩
set_option maxRecDepth 100000 in
set_option maxHeartbeats 4000000 in
theorem refPointed_any (bv : Value) (b : List UInt8) (hbl : b.length ≤ 2000) (w : World) (h : Reads w bv b) : Calls Tryz.prog 14 #[bv] w fun e w' => e = .returned (.int .i64 ((ptF b).getD 0)) ∧ Below w.heap.size w w' := by
  obtain ⟨ba, bcp, rfl, hbm⟩ := h.form
  have hAll := refAll_any _ b (by omega) w h
  obtain ⟨BL, HBL⟩ := hid_ex b.length
  have HAE : Hid (alF (b.length + 1) b = alF (BL + 1) b) := by unfold Hid; rw [HBL.out]
  rw [HAE.out, ← HBL.out] at hAll
  rw [← HBL.out] at hbm ⊢
  unfold maxLen at hbm
  obtain ⟨AF, HAF⟩ := hid_ex (alF (BL + 1) b)
  rw [← HAF.out] at hAll
  obtain ⟨KS, HKS⟩ := hid_ex (ksum AF)
  rw [← HKS.out] at hAll
  have HAll : Hid (Calls Tryz.prog 40 #[.slice ba BL bcp] w _) := hAll
  have HAs : Hid (AF = alF (b.length + 1) b) := by unfold Hid; rw [HAF.out, HBL.out]
  obtain ⟨PV, HPV⟩ := hid_ex ((ptF b).getD 0)
  rw [← HPV.out]
  clear h hAll HAE
  go_enter Tryz.func14, Tryz.ntmps14
  go_wp2_with fail
  refine HAll.out.mono ?_
  rintro e W1 ⟨vl, xs, rfl, hxs, hrow, hown, hb1⟩
  have hD : DsR W1 vl (xs.map Fr.D) := dsr_of hrow hown
  have HXs : Hid (xs.map Fr.p = AF) := hxs
  obtain ⟨fa, fcp, hvl, hfm⟩ := hD.form
  subst hvl
  obtain ⟨ds, Hds⟩ := hid_ex (xs.map Fr.D)
  rw [← Hds.out] at hD hfm ⊢
  have HDs : Hid (ds = AF.map (·.1)) := by
    unfold Hid
    rw [Hds.out, ← hxs, List.map_map]
    rfl
  obtain ⟨FL, HFL⟩ : ∃ n, Hid (ds.length = n) := ⟨_, rfl⟩
  rw [HFL.out] at hD hfm ⊢
  unfold maxLen at hfm
  have HD : Hid (DsR W1 (.slice fa FL fcp) ds) := hD
  have HB1 : Hid (Below w.heap.size w W1) := hb1
  clear hrow hown hb1 hxs hD HAll Hds
  have HNone : Hid ((∀ v : Int, ptF b = some v → AF = [(sh v.toNat, BL)] → rsF (sh v.toNat) 0 0 = (v.toNat, (sh v.toNat).length, 0) → 1 ≤ v → v ≤ 1099511627776 → False) → PV = 0) := fun hh => by
    rw [HPV.out]
    cases hp : ptF b with
    | none => rfl
    | some v =>
      obtain ⟨h1, h2, _⟩ := pt_all hp
      obtain ⟨h3, h4, _⟩ := pt_iff.1 hp
      exact (hh v hp (by rw [HAs.out, HBL.out]; exact h1) h2 h3 h4).elim
  by_cases hF : FL = 1
  · by_cases hK : KS = BL
    · subst hF
      subst hK
      obtain ⟨d, Hd⟩ : ∃ d, Hid (ds = [d]) := by
        have h1 := HFL.out
        match ds, h1 with
        | [d], _ => exact ⟨d, rfl⟩
      have hjl : 0 < ds.length := by rw [HFL.out]; decide
      obtain ⟨g, u, hfa, hg, hc, hrd⟩ := HD.out.at hjl (d := d) (by simp [Hd.out])
      obtain ⟨ua, uc, hu, hum⟩ := hrd.form
      subst hu
      subst hfa
      have HS := refReadShort_any _ d W1 hrd
      obtain ⟨UL, HUL⟩ := hid_ex d.length
      rw [← HUL.out] at HS hc hum
      unfold maxLen at hum
      obtain ⟨V, HV⟩ := hid_ex (rsF d 0 0).1
      obtain ⟨U, HU⟩ := hid_ex (rsF d 0 0).2.1
      obtain ⟨E2, HE2⟩ := hid_ex (rsF d 0 0).2.2
      rw [← HV.out, ← HU.out, ← HE2.out] at HS
      have HS' : Hid (Calls Tryz.prog 42 #[.slice ua UL uc] W1 _) := HS
      have HC : Hid (W1.cell? ⟨g, 0, none⟩ = some (.slice ua UL uc)) := hc
      have HG : Hid (g < W1.heap.size) := hg
      have HAF1 : Hid (AF = [(d, KS)]) := by
        have h1 := HDs.out
        rw [Hd.out] at h1
        have h2 := HKS.out
        match AF, h1, h2 with
        | [(x, k)], h1, h2 =>
          simp only [List.map_cons, List.map_nil, List.cons.injEq, and_true] at h1
          simp only [ksum, List.map_cons, List.map_nil, List.sum_cons, List.sum_nil, Nat.add_zero] at h2
          unfold Hid
          rw [h1, h2]
      have HPt : Hid (E2 = 0 → U = UL → V ≤ 1099511627776 → PV = (V : Int)) := fun h1 h2 h3 => by
        rw [HPV.out]
        refine pt_of (k := KS) (by rw [← HAs.out]; exact HAF1.out) HBL.out ?_ h3
        rw [HV.out, ← HUL.out, ← h2, HU.out, ← h1, HE2.out]
      have HVs : Hid (∀ v : Int, AF = [(sh v.toNat, KS)] → rsF (sh v.toNat) 0 0 = (v.toNat, (sh v.toNat).length, 0) → E2 = 0 ∧ U = UL ∧ (V : Int) = v.toNat) := fun v h1 h2 => by
        rw [HAF1.out] at h1
        simp only [List.cons.injEq, Prod.mk.injEq, and_true] at h1
        rw [← h1] at h2
        rw [HE2.out, HU.out, HV.out, HUL.out, h2]
        exact ⟨rfl, rfl, rfl⟩
      clear HS hrd
      go_wp2_with fail
      refine HS'.out.mono ?_
      rintro e W2 ⟨rfl, hb2⟩
      have HB2 : Hid (Below w.heap.size w W2) := HB1.out.trans (hb2.mono HB1.out.size)
      have hc2 : W2.cell? ⟨g, 0, none⟩ = some (.slice ua UL uc) := by rw [hb2.cell HG.out]; exact HC.out
      clear hb2 HS' hc hg
      by_cases h1 : E2 = 0
      · subst h1
        by_cases h2 : U = UL
        · subst h2
          by_cases h3 : 1099511627776 < V
          · have h3' : (1099511627776 : Int) < (V : Int) := by omega
            have HP0 : Hid (PV = 0) := HNone.out fun v _ g1 g2 _ g4 => by have := (HVs.out v g1 g2).2.2; omega
            go_wp2_with fail
            go_ret
            exact ⟨by rw [HP0.out]; rfl, HB2.out⟩
          · have h3' : ¬ (1099511627776 : Int) < (V : Int) := by omega
            have d3 : decide ((1099511627776 : Int) < (V : Int)) = false := decide_eq_false h3'
            have hw : IntKind.i64.wrap (V : Int) = (V : Int) := Go.IntWalk.i64_in _ (by omega)
            have HP0 : Hid (PV = (V : Int)) := HPt.out rfl rfl (by omega)
            go_wp2_with fail
            go_ret
            exact ⟨by rw [HP0.out]; rfl, HB2.out⟩
        · have h2' : ((U : Int) != (UL : Int)) = true := by simp; omega
          have h2'' : ¬ (U : Int) = (UL : Int) := by omega
          have HP0 : Hid (PV = 0) := HNone.out fun v _ g1 g2 _ _ => h2 (HVs.out v g1 g2).2.1
          go_wp2_with fail
          go_ret
          exact ⟨by rw [HP0.out]; rfl, HB2.out⟩
      · have h1' : (E2 != 0) = true := by simpa using h1
        have HP0 : Hid (PV = 0) := HNone.out fun v _ g1 g2 _ _ => h1 (HVs.out v g1 g2).1
        go_wp2_with fail
        go_ret
        exact ⟨by rw [HP0.out]; rfl, HB2.out⟩
    · have hK' : ((KS : Int) != (BL : Int)) = true := by simp; omega
      have hK'' : ¬ (KS : Int) = (BL : Int) := by omega
      have HP0 : Hid (PV = 0) := HNone.out fun v _ g1 _ _ _ => hK (by rw [HKS.out, g1]; simp [ksum])
      have hF' : ((FL : Int) != 1) = false := by subst hF; rfl
      subst hF
      go_wp2_with fail
      go_ret
      exact ⟨by rw [HP0.out]; rfl, HB1.out⟩
  · have hF' : ((FL : Int) != 1) = true := by simp; omega
    have hF'' : ¬ (FL : Int) = 1 := by omega
    have HP0 : Hid (PV = 0) := HNone.out fun v _ g1 _ _ _ => hF (by rw [← HFL.out, HDs.out, g1]; rfl)
    go_wp2_with fail
    go_ret
    exact ⟨by rw [HP0.out]; rfl, HB1.out⟩
end Go.Proofs.YtilbffgpniomcaaGreatDoor

/- manifest: a file system that has one state, and edits behind it: pure. -/
namespace Go.Proofs.YtilbffgpniomcaaGreatDoor
open Go.RowKit Go.Shelf

theorem bits_nm (l : List Ru) (a b c : Int) : (nmE (edS ⟨l, a, b, c⟩)).length = 3 * l.length + 5 := by
  unfold nmE edS
  simp only [List.length_cons, List.length_append, List.length_nil, ru_len]
  omega
theorem stB_len {st : St} (h : okSt st) : (frm (stB st)).length ≤ 2100 := by
  obtain ⟨h1, h2, h3, h4, h5, h6, h7, h8⟩ := h
  obtain ⟨l, a, b, c⟩ := st
  simp only at *
  rw [frm_len]
  have := shB_len (nmE (edS ⟨l, a, b, c⟩)) (fun v hv => by
    unfold nmE edS at hv
    simp only [List.length_nil, List.nil_append, List.mem_cons, List.mem_append, List.not_mem_nil, or_false] at hv
    rcases hv with rfl | rfl | hv | rfl | rfl | rfl
    · simp
    · omega
    · obtain ⟨r, hr, hv⟩ := List.mem_flatMap.1 hv
      have := h7 r hr
      unfold fitR at this
      simp only [Ru.n, List.mem_cons, List.not_mem_nil, or_false] at hv
      omega
    · omega
    · omega
    · omega)
  rw [bits_nm] at this
  unfold stB
  omega
theorem ptB_len {n : Int} (h : isNo n = true) : (frm (sh n.toNat)).length ≤ 18 := by
  obtain ⟨h1, h2⟩ := isNo_iff.1 h
  rw [frm_len]
  have := sh_len10 (n := n.toNat) (by omega)
  omega
/-- A pointer and what it names, all synced. -/
def SV (room : Int) (nm fb pb : List UInt8) (sy : Nat) : SfS := ⟨room, [(curN, 1), (nm, 0)], [(curN, 1), (nm, 0)], [], 0, 0, [(fb, sy), (pb, pb.length)]⟩
theorem save_zero {room n : Int} {st : St} (hr : 10000 ≤ room) (h : okSt st) (hn : isNo n = true) :
    mfSave (sfZ room) n st = (0, SV room (nmF man n) (frm (stB st)) (frm (sh n.toNat)) (frm (stB st)).length) := by
  have hl := stB_len h
  have hp := ptB_len hn
  have n1 := man_name hn
  have n2 := cur_ne hn
  have n3 := new_ne hn
  have n4 := cur_bef hn
  have n5 := new_bef hn
  unfold mfSave
  rw [if_pos ⟨h, hn⟩]
  unfold mfSv mfCre mfExt
  generalize nmF man n = nm at *
  generalize hfb : frm (stB st) = fb at *
  have c1 : sfCreate (sfZ room) nm = (0, ⟨room, [(nm, 0)], [], [⟨[], nm, some 0⟩], 0, 0, [([], 0)]⟩) := by
    unfold sfCreate
    rw [if_neg (by rw [n1]; simp), if_neg (by simp [sfZ, sfLook]), if_neg (by simp [sfZ])]
    rfl
  have k1 : ∀ fs, sfLook nm (⟨room, [(nm, 0)], [], [⟨[], nm, some 0⟩], 0, 0, fs⟩ : SfS).dir = some 0 := fun fs => by simp [sfLook]
  have c2 : sfAppend ⟨room, [(nm, 0)], [], [⟨[], nm, some 0⟩], 0, 0, [([], 0)]⟩ nm fb = (0, ⟨room, [(nm, 0)], [], [⟨[], nm, some 0⟩], 0, 0, [(fb, 0)]⟩) := by
    unfold sfAppend
    rw [k1]
    simp only
    rw [if_neg (by simp [SfS.fl]; omega), if_neg (by simp [SfS.fl, sfUsed]; omega)]
    rfl
  have c3 : sfSync ⟨room, [(nm, 0)], [], [⟨[], nm, some 0⟩], 0, 0, [(fb, 0)]⟩ nm = (0, ⟨room, [(nm, 0)], [], [⟨[], nm, some 0⟩], 0, 0, [(fb, fb.length)]⟩) := by
    unfold sfSync
    rw [k1]
    rfl
  have c4 : sfSyncDir ⟨room, [(nm, 0)], [], [⟨[], nm, some 0⟩], 0, 0, [(fb, fb.length)]⟩ = (0, ⟨room, [(nm, 0)], [(nm, 0)], [], 0, 0, [(fb, fb.length)]⟩) := rfl
  rw [c1, sfThen_0, c2, sfThen_0, c3, sfThen_0, c4, sfThen_0]
  unfold mfRm
  have c5 : sfRemove ⟨room, [(nm, 0)], [(nm, 0)], [], 0, 0, [(fb, fb.length)]⟩ newN = (4, ⟨room, [(nm, 0)], [(nm, 0)], [], 0, 0, [(fb, fb.length)]⟩) := by
    unfold sfRemove
    rw [show sfLook newN (⟨room, [(nm, 0)], [(nm, 0)], [], 0, 0, [(fb, fb.length)]⟩ : SfS).dir = none by simp [sfLook, Ne.symm n3]]
  rw [c5, if_pos (.inr rfl)]
  unfold mfPt mfCre mfExt
  generalize frm (sh n.toNat) = pb at *
  have d1 : sfDel [] [(nm, 0)] = [(nm, 0)] := by
    unfold sfDel
    have : nm ≠ [] := fun e => by rw [e] at n1; simp [sfName] at n1
    simp [this]
  have d2 : sfDel newN [(nm, 0)] = [(nm, 0)] := by unfold sfDel; simp [Ne.symm n3]
  have d3 : sfDo [(nm, 0)] ⟨[], newN, some 1⟩ = [(newN, 1), (nm, 0)] := by
    unfold sfDo sfPut
    simp only
    rw [d1, d2]
    unfold sfIns
    rw [if_pos n5]
  have d4 : sfDo [(newN, 1), (nm, 0)] ⟨newN, curN, some 1⟩ = [(curN, 1), (nm, 0)] := by
    unfold sfDo sfPut
    simp only
    have : sfDel newN [(newN, 1), (nm, 0)] = [(nm, 0)] := by unfold sfDel; simp [Ne.symm n3]
    rw [this]
    have : sfDel curN [(nm, 0)] = [(nm, 0)] := by unfold sfDel; simp [Ne.symm n2]
    rw [this]
    unfold sfIns
    rw [if_pos n4]
  have e1 : sfCreate ⟨room, [(nm, 0)], [(nm, 0)], [], 0, 0, [(fb, fb.length)]⟩ newN = (0, ⟨room, [(newN, 1), (nm, 0)], [(nm, 0)], [⟨[], newN, some 1⟩], 0, 0, [(fb, fb.length), ([], 0)]⟩) := by
    unfold sfCreate
    rw [if_neg (by decide), if_neg (by simp [sfLook, Ne.symm n3]), if_neg (by simp), ← d3]
    rfl
  have k2 : ∀ fs, sfLook newN (⟨room, [(newN, 1), (nm, 0)], [(nm, 0)], [⟨[], newN, some 1⟩], 0, 0, fs⟩ : SfS).dir = some 1 := fun fs => by simp [sfLook]
  have e2 : sfAppend ⟨room, [(newN, 1), (nm, 0)], [(nm, 0)], [⟨[], newN, some 1⟩], 0, 0, [(fb, fb.length), ([], 0)]⟩ newN pb = (0, ⟨room, [(newN, 1), (nm, 0)], [(nm, 0)], [⟨[], newN, some 1⟩], 0, 0, [(fb, fb.length), (pb, 0)]⟩) := by
    unfold sfAppend
    rw [k2]
    simp only
    rw [if_neg (by simp [SfS.fl]; omega), if_neg (by simp [SfS.fl, sfUsed]; omega)]
    rfl
  have e3 : sfSync ⟨room, [(newN, 1), (nm, 0)], [(nm, 0)], [⟨[], newN, some 1⟩], 0, 0, [(fb, fb.length), (pb, 0)]⟩ newN = (0, ⟨room, [(newN, 1), (nm, 0)], [(nm, 0)], [⟨[], newN, some 1⟩], 0, 0, [(fb, fb.length), (pb, pb.length)]⟩) := by
    unfold sfSync
    rw [k2]
    rfl
  have e4 : sfRename ⟨room, [(newN, 1), (nm, 0)], [(nm, 0)], [⟨[], newN, some 1⟩], 0, 0, [(fb, fb.length), (pb, pb.length)]⟩ newN curN = (0, ⟨room, [(curN, 1), (nm, 0)], [(nm, 0)], [⟨[], newN, some 1⟩, ⟨newN, curN, some 1⟩], 0, 0, [(fb, fb.length), (pb, pb.length)]⟩) := by
    unfold sfRename
    rw [if_neg (by decide), k2, ← d4]
    rfl
  have e5 : sfSyncDir ⟨room, [(curN, 1), (nm, 0)], [(nm, 0)], [⟨[], newN, some 1⟩, ⟨newN, curN, some 1⟩], 0, 0, [(fb, fb.length), (pb, pb.length)]⟩ = (0, SV room nm fb pb fb.length) := by
    unfold sfSyncDir sfPlan sfSettle SV
    simp only [if_pos, List.take, List.length_cons, List.length_nil, List.foldl_cons, List.foldl_nil]
    rw [d3, d4]
  rw [e1, sfThen_0, e2, sfThen_0, e3, sfThen_0, e4, sfThen_0, e5]
theorem sv_cur (room : Int) (nm fb pb : List UInt8) (sy : Nat) : sfLook curN (SV room nm fb pb sy).dir = some 1 := by simp [SV, sfLook]
theorem sv_nm (room : Int) {nm : List UInt8} (h : curN ≠ nm) (fb pb : List UInt8) (sy : Nat) : sfLook nm (SV room nm fb pb sy).dir = some 0 := by simp [SV, sfLook, h]
theorem sv_rdc (room : Int) (nm fb pb : List UInt8) (sy : Nat) : sfRead (SV room nm fb pb sy) curN = pb := by unfold sfRead; rw [sv_cur]; rfl
theorem sv_rdn (room : Int) {nm : List UInt8} (h : curN ≠ nm) (fb pb : List UInt8) (sy : Nat) : sfRead (SV room nm fb pb sy) nm = fb := by unfold sfRead; rw [sv_nm room h]; rfl
theorem sv_load {room n : Int} (hn : isNo n = true) (fb : List UInt8) (sy : Nat) {st : St} (h : rpS fb = some st) : mfLd (SV room (nmF man n) fb (frm (sh n.toNat)) sy) = (some (st, n), 0) := by
  obtain ⟨h1, h2⟩ := isNo_iff.1 hn
  unfold mfLd
  rw [sv_cur]
  simp only
  rw [sv_rdc, pt_iff.2 ⟨h1, h2, rfl⟩]
  simp only
  rw [sv_rdn room (cur_ne hn), h]
theorem sv_again {room n : Int} (hn : isNo n = true) (fb pb : List UInt8) (sy : Nat) {st : St} (h : okSt st) : mfSave (SV room (nmF man n) fb pb sy) n st = (80, SV room (nmF man n) fb pb sy) := by
  unfold mfSave
  rw [if_pos ⟨h, hn⟩]
  unfold mfSv mfCre
  have : sfCreate (SV room (nmF man n) fb pb sy) (nmF man n) = (80, SV room (nmF man n) fb pb sy) := by
    unfold sfCreate
    rw [if_neg (by rw [man_name hn]; simp), if_pos (by rw [sv_nm room (cur_ne hn)]; rfl)]
  have h2 : sfThen (80, SV room (nmF man n) fb pb sy) (fun t => mfExt t (nmF man n) (stB st)) = (80, SV room (nmF man n) fb pb sy) := sfThen_no (by simp) _
  rw [this, h2, sfThen_no (by simp)]
theorem sv_ext {room : Int} {nm : List UInt8} (h : curN ≠ nm) (fb pb d : List UInt8) (sy : Nat) (hl : fb.length + (frm d).length ≤ 1048576) (hr : ((pb.length + fb.length + (frm d).length : Nat) : Int) ≤ room) :
    mfExt (SV room nm fb pb sy) nm d = (0, SV room nm (fb ++ frm d) pb (fb ++ frm d).length) := by
  unfold mfExt
  have e1 : (SV room nm fb pb sy).fl 0 = (fb, sy) := rfl
  have e2 : sfUsed (SV room nm fb pb sy) = pb.length + fb.length := by simp [sfUsed, SV, SfS.fl]
  have e3 : (SV room nm fb pb sy).room = room := rfl
  have : sfAppend (SV room nm fb pb sy) nm (frm d) = (0, SV room nm (fb ++ frm d) pb sy) := by
    unfold sfAppend
    rw [sv_nm room h]
    simp only
    rw [e1, e2, e3, if_neg (by simp only; omega), if_neg (by omega)]
    rfl
  rw [this, sfThen_0]
  unfold sfSync
  rw [sv_nm room h]
  rfl
/-- Frames that all make edits. -/
theorem fm_cat {ds : List (List UInt8)} (h : ∀ d ∈ ds, d.length ≤ 65535) : fmS (cat ds) = ds := by
  unfold fmS
  have h2 := en_ge ds ds.length (Nat.le_refl _)
  have e : en ds ds.length = (cat ds).length := by unfold en; rw [List.take_length]
  have := al_cut ds.length ds (cat ds).length ((cat ds).length + 1) (Nat.le_refl _) h (by omega) (.inl rfl) (by omega)
  rw [List.take_length] at this
  rw [this, List.take_length, List.map_map]
  exact List.map_id _
theorem fm_cut {ds : List (List UInt8)} {x : List UInt8} (h : ∀ d ∈ ds, d.length ≤ 65535) (hx : x.length ≤ 65535) {c : Nat} (hc : c < (frm x).length) : fmS (cat ds ++ (frm x).take c) = ds := by
  have h2 := en_ge ds ds.length (Nat.le_refl _)
  have e : en (ds ++ [x]) ds.length = (cat ds).length := by unfold en; rw [List.take_left]
  have ec : cat (ds ++ [x]) = cat ds ++ frm x := by rw [cat_append]; simp [cat]
  have e2 : en (ds ++ [x]) (ds.length + 1) = (cat ds).length + (frm x).length := by unfold en; rw [List.take_of_length_le (by simp), ec, List.length_append]
  have h2' : 8 * ds.length ≤ (cat ds).length := by have : en ds ds.length = (cat ds).length := by unfold en; rw [List.take_length]
                                                   omega
  have hl : (cat ds ++ (frm x).take c).length = (cat ds).length + c := by simp; omega
  have ht : (cat (ds ++ [x])).take ((cat ds).length + c) = cat ds ++ (frm x).take c := by
    rw [ec, List.take_append, List.take_of_length_le (by omega)]
    congr 2
    omega
  have := al_cut ds.length (ds ++ [x]) ((cat ds).length + c) ((cat ds).length + c + 1) (by simp) (fun d hd => by
    rcases List.mem_append.1 hd with hd | hd
    · exact h d hd
    · simp only [List.mem_singleton] at hd; rw [hd]; exact hx) (by omega) (.inr (by omega)) (by omega)
  unfold fmS
  rw [hl, ← ht, this, List.take_left, List.map_map]
  exact List.map_id _
theorem rpF_app : ∀ (ds : List (List UInt8)) (s : St) (m : Bool) {t : St} {d : List UInt8} {x : Ed} {u : St}, (rpF ds s m = (t, true) ∧ (∀ e, rpF (ds ++ [e]) s m = rpF [e] t true)) → edR d = some x → (apS t x).1 = some u → rpF (ds ++ [d]) s m = (u, true) := fun ds s m t d x u h h1 h2 => by
  rw [h.2, rpF_on [] t true h1 h2, rpF]
/-- All frames made edits. -/
def RpA (ds : List (List UInt8)) (t : St) : Prop := ∀ es, rpF (ds ++ es) st0 false = rpF es t true
theorem RpA.st {ds : List (List UInt8)} {t : St} (h : RpA ds t) : rpF ds st0 false = (t, true) := by
  have := h []
  rwa [List.append_nil, rpF] at this
theorem RpA.rpS {ds : List (List UInt8)} {t : St} (h : RpA ds t) {b : List UInt8} (hb : fmS b = ds) : rpS b = some t := by
  unfold Go.Proofs.YtilbffgpniomcaaGreatDoor.rpS
  rw [hb, h.st]
  rfl
theorem RpA.app {ds : List (List UInt8)} {t u : St} {d : List UInt8} {x : Ed} (h : RpA ds t) (h1 : edR d = some x) (h2 : (apS t x).1 = some u) : RpA (ds ++ [d]) u := fun es => by
  rw [List.append_assoc, h, List.singleton_append, rpF_on es t true h1 h2]
theorem edS_wr {st : St} (h : okSt st) : edW (edS st) = some (stB st) ∧ edR (stB st) = some (edS st) := by
  obtain ⟨h1, h2, h3, h4, h5, h6, h7, h8⟩ := h
  obtain ⟨l, a, b, c⟩ := st
  simp only at *
  have hv : ∀ v ∈ nmE (edS ⟨l, a, b, c⟩), 0 ≤ v ∧ v ≤ 9223372036854775807 := fun v hv => by
    unfold nmE edS at hv
    simp only [List.length_nil, List.nil_append, List.mem_cons, List.mem_append, List.not_mem_nil, or_false] at hv
    rcases hv with rfl | rfl | hv | rfl | rfl | rfl
    · simp
    · omega
    · obtain ⟨r, hr, hv⟩ := List.mem_flatMap.1 hv
      have := h7 r hr
      unfold fitR at this
      simp only [Ru.n, List.mem_cons, List.not_mem_nil, or_false] at hv
      omega
    · omega
    · omega
    · omega
  have e : edW (edS ⟨l, a, b, c⟩) = some (stB ⟨l, a, b, c⟩) := by
    unfold edW
    rw [if_neg (by simp [edS]; omega), if_pos (by unfold okN; rw [List.all_eq_true]; intro v q; exact decide_eq_true (hv v q).1)]
    rfl
  exact ⟨e, edR_wr e (fun v q => (hv v q).2)⟩
theorem ap_st0 {st : St} (h : okSt st) : apS st0 (edS st) = (some st, 0) := by
  have h' := h
  obtain ⟨h1, h2, h3, h4, h5, h6, h7, h8⟩ := h
  have hw : wk st.ru := ahd_wk (h8.imp fun q => q.1)
  rw [apS_sorted st0_ok (l := []) (by rfl) (by simp only [edS, st0]; omega) hw (by simp [edS])]
  rw [if_pos (by simpa [edS] using h')]
  rfl
theorem rpa_one {st : St} (h : okSt st) : RpA [stB st] st := fun es => by
  rw [List.singleton_append, rpF_on es st0 false (edS_wr h).2 (by rw [ap_st0 h])]
theorem stB_le {st : St} (h : okSt st) : (stB st).length ≤ 65535 := by have := stB_len h; rw [frm_len] at this; omega
end Go.Proofs.YtilbffgpniomcaaGreatDoor

/- ManifestLoads: its file systems, plainly. -/
namespace Go.Proofs.YtilbffgpniomcaaGreatDoor
open Go.RowKit Go.Shelf

def ld2 (nm l : List UInt8) : SfS := ⟨10000, [(nm, 0)], [], [⟨[], nm, some 0⟩], 0, 0, [(l, 0)]⟩
def ld3 (p nm l : List UInt8) : SfS := ⟨10000, [(curN, 0), (nm, 1)], [], [⟨[], curN, some 0⟩, ⟨[], nm, some 1⟩], 0, 0, [(p, 0), (l, 0)]⟩
def ldSt (t : Bool) (n : Int) (p l : List UInt8) : SfS := if isNo n = true then (if t then ld3 p (nmF man n) l else ld2 (nmF man n) l) else (if t then ld2 curN p else sfZ 10000)
theorem ld_cr1 {nm : List UInt8} (h : sfName nm = true) : sfCreate (sfZ 10000) nm = (0, ld2 nm []) := by
  unfold sfCreate
  rw [if_neg (by rw [h]; simp), if_neg (by simp [sfZ, sfLook]), if_neg (by simp [sfZ])]
  rfl
theorem ld_lk2 (nm l : List UInt8) : sfLook nm (ld2 nm l).dir = some 0 := by simp [ld2, sfLook]
theorem ld_ap1 (nm : List UInt8) {l : List UInt8} (h : l.length ≤ 2000) : sfAppend (ld2 nm []) nm l = (0, ld2 nm l) := by
  unfold sfAppend
  rw [ld_lk2]
  simp only
  have e3 : (ld2 nm []).room = 10000 := rfl
  rw [if_neg (by simp [SfS.fl, ld2]; omega), if_neg (by rw [e3]; simp [SfS.fl, sfUsed, ld2]; omega)]
  rfl
theorem ld_cr2 {p nm : List UInt8} (h : sfName nm = true) (h2 : curN ≠ nm) (h3 : bytesBefore nm curN = false) : sfCreate (ld2 curN p) nm = (0, ld3 p nm []) := by
  have d1 : sfDo [(curN, 0)] ⟨[], nm, some 1⟩ = [(curN, 0), (nm, 1)] := by
    unfold sfDo sfPut
    simp only
    have e1 : sfDel [] [(curN, 0)] = [(curN, 0)] := by decide
    rw [e1]
    have e2 : sfDel nm [(curN, 0)] = [(curN, 0)] := by unfold sfDel; simp [h2]
    rw [e2]
    unfold sfIns
    rw [if_neg (by simp [h3])]
    rfl
  unfold sfCreate
  rw [if_neg (by rw [h]; simp), if_neg (by simp [ld2, sfLook, h2]), if_neg (by simp [ld2])]
  unfold ld3
  rw [← d1]
  rfl
theorem ld_lk3 {p nm l : List UInt8} (h2 : curN ≠ nm) : sfLook nm (ld3 p nm l).dir = some 1 := by simp [ld3, sfLook, h2]
theorem ld_ap2 {p nm l : List UInt8} (h2 : curN ≠ nm) (hp : p.length ≤ 200) (h : l.length ≤ 2000) : sfAppend (ld3 p nm []) nm l = (0, ld3 p nm l) := by
  unfold sfAppend
  rw [ld_lk3 h2]
  simp only
  have e3 : (ld3 p nm []).room = 10000 := rfl
  rw [if_neg (by simp [SfS.fl, ld3]; omega), if_neg (by rw [e3]; simp [SfS.fl, sfUsed, ld3]; omega)]
  rfl
theorem rpS_nil : rpS [] = none := by decide
theorem ld_len {t : Bool} {n : Int} {p l : List UInt8} (hp : p.length ≤ 200) (hl : l.length ≤ 2000) (nm : List UInt8) : (sfRead (ldSt t n p l) nm).length ≤ 1000000 := by
  have hf : ∀ i, ((ldSt t n p l).fl i).1.length ≤ 2000 := fun i => by
    unfold ldSt
    split <;> split
    · match i with
      | 0 => simp [ld3, SfS.fl]; omega
      | 1 => simp [ld3, SfS.fl]; omega
      | i + 2 => simp [ld3, SfS.fl]
    · match i with
      | 0 => simp [ld2, SfS.fl]; omega
      | i + 1 => simp [ld2, SfS.fl]
    · match i with
      | 0 => simp [ld2, SfS.fl]; omega
      | i + 1 => simp [ld2, SfS.fl]
    · simp [sfZ, SfS.fl]
  unfold sfRead
  split
  · simp
  · exact Nat.le_trans (hf _) (by decide)
theorem man_inj {n m : Int} (hn : isNo n = true) (hm : isNo m = true) (h : nmF man n = nmF man m) : n = m := by
  obtain ⟨h1, h2⟩ := isNo_iff.1 hn
  obtain ⟨h3, h4⟩ := isNo_iff.1 hm
  exact nmF_inj h1 h2 h3 h4 h
theorem ld_tell (t : Bool) (n : Int) (p l : List UInt8) : mfLd (ldSt t n p l) = if t = false then (none, 4) else if (ptF p).getD 0 = 0 ∨ (ptF p).getD 0 ≠ n ∨ (rpF (fmS l) st0 false).2 = false then (none, 114) else (some ((rpF (fmS l) st0 false).1, n), 0) := by
  cases t with
  | false =>
    rw [if_pos rfl]
    unfold mfLd ldSt
    by_cases hn : isNo n = true
    · rw [if_pos hn, if_neg (show ¬ (false = true) by simp), show sfLook curN (ld2 (nmF man n) l).dir = none by simp [ld2, sfLook, Ne.symm (cur_ne hn)]]
    · rw [if_neg hn]
      rfl
  | true =>
    rw [if_neg (by simp)]
    have hc : (∃ i, sfLook curN (ldSt true n p l).dir = some i) ∧ sfRead (ldSt true n p l) curN = p := by
      unfold ldSt
      split
      · exact ⟨⟨0, by simp [ld3, sfLook]⟩, by simp [sfRead, ld3, sfLook, SfS.fl]⟩
      · exact ⟨⟨0, by simp [ld2, sfLook]⟩, by simp [sfRead, ld2, sfLook, SfS.fl]⟩
    obtain ⟨⟨i, h1⟩, h2⟩ := hc
    unfold mfLd
    rw [h1]
    simp only
    rw [h2]
    cases hp : ptF p with
    | none => rw [if_pos (.inl rfl)]
    | some m =>
      obtain ⟨m1, m2, _⟩ := pt_iff.1 hp
      have hm : isNo m = true := isNo_iff.2 ⟨m1, m2⟩
      simp only [Option.getD_some]
      by_cases e : m = n
      · subst e
        have hr : sfRead (ldSt true m p l) (nmF man m) = l := by
          unfold ldSt
          rw [if_pos hm]
          simp [sfRead, ld3, sfLook, SfS.fl, cur_ne hm]
        rw [hr]
        unfold rpS
        cases hq : (rpF (fmS l) st0 false).2 with
        | false => rw [if_neg (by simp), if_pos (.inr (.inr rfl))]
        | true => rw [if_pos rfl, if_neg (by simp; omega)]
      · rw [if_pos (.inr (.inl e))]
        have hr : sfRead (ldSt true n p l) (nmF man m) = [] := by
          unfold ldSt
          split
          · rename_i hn
            have e2 : nmF man n ≠ nmF man m := fun z => e (man_inj hn hm z).symm
            simp [sfRead, ld3, sfLook, cur_ne hm, e2]
          · simp [sfRead, ld2, sfLook, cur_ne hm]
        rw [hr, rpS_nil]
end Go.Proofs.YtilbffgpniomcaaGreatDoor

/- manifest: extend, create. -/
namespace Go.Proofs.YtilbffgpniomcaaGreatDoor
open Go.RowKit Go.Shelf

theorem row_new {A B : World} {base : Nat} {e : TypeId} {size : Nat} {v : Value} {k : Nat} {xs : List Value} (h : A.ownsRow base e size v k xs) (hk : ∀ k, base ≤ k → k < A.heap.size → B.heap[k]? = A.heap[k]?) : B.ownsRow base e size v k xs := by
  obtain ⟨h1, h2⟩ := h
  refine ⟨h1, ?_⟩
  rcases h2 with h2 | ⟨g, cap, cur, hv, hg, hw, r⟩
  · exact .inl h2
  · exact .inr ⟨g, cap, cur, hv, hg, (hk g hg (Array.getElem?_eq_some_iff.1 hw).1).trans hw, r⟩
/-- From a world to a later one nothing has turned but blocks of O, and a file system has them and new ones. -/
structure To (w : World) (O : Nat → Prop) (w' : World) (O' : Nat → Prop) : Prop where
  g : ∀ k, O' k → Grw O w w' k
  o : Onl O w w'
theorem To.refl (w : World) (O : Nat → Prop) : To w O w O := ⟨fun _ h => .inl h, Onl.refl _ _⟩
theorem To.below {w w' : World} {O : Nat → Prop} (h : Below w.heap.size w w') : To w O w' O := ⟨fun _ h => .inl h, onl_of_below h⟩
theorem To.trans {w w1 w2 : World} {O O1 O2 : Nat → Prop} (h : To w O w1 O1) (h' : To w1 O1 w2 O2) : To w O w2 O2 :=
  ⟨fun k hk => (Grw.trans h.o.size h'.o.size) k (by
    rcases h'.g k hk with q | q
    · exact .inl (h.g k q)
    · exact .inr q), h.o.trans (h'.o.mono h.g)⟩
theorem To.then {w w1 w2 : World} {O O1 : Nat → Prop} (h : To w O w1 O1) (hb : Below w1.heap.size w1 w2) : To w O w2 O1 := h.trans (To.below hb)
theorem To.fsr {w w1 w2 : World} {O O1 : Nat → Prop} (h : To w O w1 O1) (ho : Onl O1 w1 w2) : To w O w2 (Grw O1 w1 w2) := h.trans ⟨fun _ h => h, ho⟩
def AdPost (w : World) (O : Nat → Prop) (p : Value) (R : Int × SfS) (e : Ending) (w' : World) : Prop := ∃ O', e = .returned (.int .i64 R.1) ∧ Fs w' O' p R.2 ∧ To w O w' O'
set_option maxRecDepth 100000 in
set_option maxHeartbeats 1000000 in
theorem extend_any {w : World} {O : Nat → Prop} {p : Value} {s : SfS} (h : Fs w O p s) (nm : List UInt8) (hn : nm.length ≤ maxLen) (dv : Value) (d : List UInt8) (hd : d.length ≤ 65535) (hR : Reads w dv d) :
    Calls Tryz.prog 55 #[p, .string ⟨nm.toArray⟩, dv] w (AdPost w O p (mfExt s nm d)) := by
  obtain ⟨g0, rfl⟩ := h.ptr
  have HFs : Hid (Fs w O (.pointer (some ⟨g0, 0, none⟩)) s) := h
  have HN : Hid (nm.length ≤ maxLen) := hn
  have HC : Hid (Calls Tryz.prog 71 #[dv] w _) := frame_any dv d hd w hR
  obtain ⟨da, dc, rfl, _⟩ := hR.form
  obtain ⟨R, HRR⟩ := hid_ex (mfExt s nm d)
  rw [← HRR.out]
  clear h hn hd hR
  go_enter Tryz.func55, Tryz.ntmps55
  go_wp2_with fail
  refine HC.out.mono ?_
  rintro e w1 ⟨vf, rfl, hof, hb1⟩
  have HF1 : Hid (Fs w1 O (.pointer (some ⟨g0, 0, none⟩)) s) := HFs.out.below hb1
  have HT1 : Hid (To w O w1 O) := To.below hb1
  have HRD : Hid (∀ w', Onl O w1 w' → Reads w' vf (frm d)) := fun w' ho => Own.reads (row_new hof (fun k h1 h2 => ho.block k h2 (fun z => by have := HFs.out.lt k z; omega)))
  obtain ⟨fa, fcp, hvv, _⟩ := hof.form
  subst hvv
  have HA : Hid (Calls Tryz.prog 10 #[.pointer (some ⟨g0, 0, none⟩), .string ⟨nm.toArray⟩, .slice fa (frm d).length fcp] w1 _) := HF1.out.append nm HN.out _ (frm d) HRD.out
  obtain ⟨FL, HFL⟩ := hid_ex (frm d).length
  rw [← HFL.out] at HA
  try rw [← HFL.out]
  clear hof hb1 HRD
  go_wp2_with fail
  refine HA.out.mono ?_
  rintro e w2 ⟨rfl, hf2, ho2⟩
  rcases hc : sfAppend s nm (frm d) with ⟨c1, c2⟩
  rw [hc] at hf2
  simp only at hf2 ⊢
  have HF2 : Hid (Fs w2 (Grw O w1 w2) (.pointer (some ⟨g0, 0, none⟩)) c2) := hf2
  have HT2 : Hid (To w O w2 (Grw O w1 w2)) := HT1.out.fsr ho2
  have HE : Hid (R = sfThen (c1, c2) fun t => sfSync t nm) := by unfold Hid; rw [HRR.out, ← hc]; rfl
  clear hf2 ho2 hc HA HF1 HT1
  by_cases hz : c1 = 0
  · subst hz
    go_wp2_with fail
    refine (HF2.out.sync nm HN.out).mono ?_
    rintro e w3 ⟨rfl, hf3, ho3⟩
    have HF3 : Hid (Fs w3 _ _ _) := hf3
    have HT3 : Hid (To w O w3 _) := HT2.out.fsr ho3
    clear hf3 ho3
    have HE3 : Hid (sfSync c2 nm = R) := by unfold Hid; rw [HE.out, sfThen_0]
    rw [HE3.out] at HF3 ⊢
    go_wp2_with fail
    go_ret
    exact ⟨_, rfl, HF3.out, HT3.out⟩
  · have hz' : (c1 != 0) = true := by simpa using hz
    have HE3 : Hid (R = (c1, c2)) := by unfold Hid; rw [HE.out, sfThen_no hz]
    go_wp2_with fail
    go_ret
    exact ⟨_, by rw [HE3.out]; rfl, by rw [HE3.out]; exact HF2.out, HT2.out⟩
set_option maxRecDepth 100000 in
set_option maxHeartbeats 1000000 in
theorem mcreate_any {w : World} {O : Nat → Prop} {p : Value} {s : SfS} (h : Fs w O p s) (nm : List UInt8) (hn : nm.length ≤ maxLen) (dv : Value) (d : List UInt8) (hd : d.length ≤ 65535) (hR : ∀ w', Onl O w w' → Reads w' dv d) (hpn : s.pend.length < 1099511627776) :
    Calls Tryz.prog 44 #[p, .string ⟨nm.toArray⟩, dv] w (AdPost w O p (mfCre s nm d)) := by
  obtain ⟨g0, rfl⟩ := h.ptr
  have HN : Hid (nm.length ≤ maxLen) := hn
  have HD : Hid (d.length ≤ 65535) := hd
  have HRD : Hid (∀ w', Onl O w w' → Reads w' dv d) := hR
  have HC : Hid (Calls Tryz.prog 9 #[.pointer (some ⟨g0, 0, none⟩), .string ⟨nm.toArray⟩] w _) := h.create nm hn hpn
  obtain ⟨da, dc, rfl, _⟩ := (hR w (Onl.refl _ _)).form
  obtain ⟨R, HRR⟩ := hid_ex (mfCre s nm d)
  rw [← HRR.out]
  obtain ⟨DL, HDL⟩ := hid_ex d.length
  rw [← HDL.out] at HRD ⊢
  clear h hn hd hR hpn
  go_enter Tryz.func44, Tryz.ntmps44
  go_wp2_with fail
  refine HC.out.mono ?_
  rintro e w2 ⟨rfl, hf2, ho2⟩
  rcases hc : sfCreate s nm with ⟨c1, c2⟩
  rw [hc] at hf2
  simp only at hf2 ⊢
  have HF2 : Hid (Fs w2 (Grw O w w2) (.pointer (some ⟨g0, 0, none⟩)) c2) := hf2
  have HT2 : Hid (To w O w2 (Grw O w w2)) := (To.refl w O).fsr ho2
  have HE : Hid (R = sfThen (c1, c2) fun t => mfExt t nm d) := by unfold Hid; rw [HRR.out, ← hc]; rfl
  have HR2 : Hid (Reads w2 (.slice da DL dc) d) := HRD.out w2 ho2
  clear hf2 ho2 hc
  by_cases hz : c1 = 0
  · subst hz
    go_wp2_with fail
    refine (extend_any HF2.out nm HN.out _ d HD.out HR2.out).mono ?_
    rintro e w3 ⟨O3, rfl, hf3, ht3⟩
    have HF3 : Hid (Fs w3 _ _ _) := hf3
    have HT3 : Hid (To w O w3 _) := HT2.out.trans ht3
    clear hf3 ht3
    have HE3 : Hid (mfExt c2 nm d = R) := by unfold Hid; rw [HE.out, sfThen_0]
    rw [HE3.out] at HF3 ⊢
    go_wp2_with fail
    go_ret
    exact ⟨_, rfl, HF3.out, HT3.out⟩
  · have hz' : (c1 != 0) = true := by simpa using hz
    have HE3 : Hid (R = (c1, c2)) := by unfold Hid; rw [HE.out, sfThen_no hz]
    go_wp2_with fail
    go_ret
    exact ⟨_, by rw [HE3.out]; rfl, by rw [HE3.out]; exact HF2.out, HT2.out⟩
end Go.Proofs.YtilbffgpniomcaaGreatDoor
