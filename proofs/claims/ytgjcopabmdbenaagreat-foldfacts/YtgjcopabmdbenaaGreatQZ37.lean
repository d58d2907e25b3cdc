/- RE1, joined. -/
import Derived.Test.YtgjcopabmdbenaaGreatQZ28
import Derived.Test.YtgjcopabmdbenaaGreatQZ33
import Derived.Test.YtgjcopabmdbenaaGreatQZ36
/- The contracts of the reference's May (layer 12) and Entries (layer 15). -/
namespace Go.Proofs.YtgjcopabmdbenaaGreat
open Go.RowKit

set_option maxRecDepth 100000 in
set_option maxHeartbeats 1000000 in
theorem refMayF_any (f : Fa) (w : World) (hS : SReads w f.v f.D) (hB : FaB f) :
    Calls Tryz.prog 20 #[.agg #[f.v, .int .i64 f.t, .int .i64 f.x]] w fun e w' => e = .returned (.bool (mayF f)) ∧ Below w.heap.size w w' := by
  obtain ⟨v, D, t, x⟩ := f
  simp only at hS ⊢
  have HMF : Hid (mayF ⟨v, D, t, x⟩ = (isT t && mayB D)) := rfl
  rw [HMF.out]
  have HS : Hid (SReads w v D) := hS
  obtain ⟨a, cap, rfl, _⟩ := hS.form
  clear hS hB HMF
  obtain ⟨w1, HW1⟩ := hid_ex (w.alloc (.cells #[.slice a D.length cap, .int .i64 t, .int .i64 x] 36))
  have HB1 : Hid (Below w.heap.size w w1) := by rw [HW1.out]; exact new_below _ _
  go_enter Tryz.func20, Tryz.ntmps20
  go_wp2_with fail
  rw [← HW1.out]
  refine (fits_anyK _ D _ (HS.out.below HB1.out)).mono ?_
  rintro e w2 ⟨rfl, rfl⟩
  have HY : Hid (w2.heap[w.heap.size]? = some (.cells #[.slice a D.length cap, .int .i64 t, .int .i64 x] 36)) := by rw [HW1.out]; exact heap_alloc_new _ _
  obtain ⟨k0, k1, k2⟩ := kcells HY.out
  clear HW1
  cases hm : mayB D with
  | false =>
    have HEnd : Hid ((isT t && mayB D) = false) := by unfold Hid; rw [hm, Bool.and_false]
    clear hm
    go_wp2_with fail
    go_ret
    exact ⟨by rw [HEnd.out]; rfl, HB1.out⟩
  | true =>
    have HEnd : Hid ((isT t && mayB D) = isT t) := by unfold Hid; rw [hm, Bool.and_true]
    clear hm
    go_wp2_with fail
    refine (refTime_any t _).mono ?_
    rintro e w3 ⟨rfl, rfl⟩
    obtain ⟨d, Hd⟩ := hid_ex (isT t)
    have HE2 : Hid ((isT t && mayB D) = d) := by rw [Hd.out]; exact HEnd.out
    rw [← Hd.out]
    clear Hd HEnd
    go_wp2_with fail
    go_ret
    exact ⟨by rw [HE2.out]; rfl, HB1.out⟩
/-- What Entries makes. -/
def enF (R : Rl) (fs : List Fa) : List En := can (fs.map (fcE R))
theorem en_gd (R : Rl) (fs : List Fa) : GdE (fs.map (fcE R)) := fun y hy => by
  obtain ⟨f, _, rfl⟩ := List.mem_map.1 hy
  exact oneF_gd f.x
theorem enF_snoc (R : Rl) (fs : List Fa) (f : Fa) : enF R (fs ++ [f]) = ins (fcE R f) (enF R fs) := by
  unfold enF
  rw [List.map_append, List.map_cons, List.map_nil]
  have hp : (fs.map (fcE R) ++ [fcE R f]).Perm (fcE R f :: fs.map (fcE R)) := List.perm_append_comm (l₁ := fs.map (fcE R)) (l₂ := [fcE R f])
  rw [can_perm hp (GdE.app.2 ⟨en_gd R fs, fun y hy => by simp at hy; rw [hy]; exact oneF_gd f.x⟩)]
  rfl
theorem enF_len (R : Rl) (fs : List Fa) : (enF R fs).length ≤ fs.length := by
  have := can_len (fs.map (fcE R))
  unfold enF
  simpa using this
theorem floor_fact {R : Rl} (hR : RightP R) {t : Int} (ht : isT t = true) : floorV t (R.sz 0) = .tuple #[.int .i64 (t - t % R.sz 0), .int .i64 0] := by
  have h4 : isT t && isS (R.sz 0) := by rw [ht, sz_ok hR (i := 0) (by have := hR.1; omega)]; rfl
  unfold floorV
  rw [if_pos h4, if_pos h4]
set_option maxRecDepth 100000 in
set_option maxHeartbeats 4000000 in
theorem refEntries_any (R : Rl) (hR : RightP R) (v : Value) (fs : List Fa) (w : World) (hL : Lies R w.heap.size w) (hF : FReads w v fs) (hl : fs.length ≤ 100000) (hm : ∀ f ∈ fs, mayF f = true) :
    Calls Tryz.prog 22 #[.agg #[.slice R.a R.len R.cap, .int .i64 R.kp], v] w fun e w' => ∃ v', e = .returned v' ∧ EReads w' v' (enF R fs) ∧ Below w.heap.size w w' := by
  have HF : Hid (FReads w v fs) := hF
  have HL : Hid (Lies R w.heap.size w) := hL
  have HR : Hid (RightP R) := hR
  have HMy : Hid (∀ f ∈ fs, mayF f = true) := hm
  have hrl : 0 < R.len := by have := hR.1; omega
  obtain ⟨a, cap, rfl, hm1, hm2⟩ := hF.form
  unfold maxLen at hm2
  clear hF hL hR hm
  obtain ⟨w1, HW1⟩ := hid_ex (w.alloc (.cells #[.slice R.a R.len R.cap, .int .i64 R.kp] 24))
  have HB1 : Hid (Below w.heap.size w w1) := by rw [HW1.out]; exact new_below _ _
  have HX1 : Hid (RBox R w.heap.size w1) := by rw [HW1.out]; exact RBox.new R w _
  obtain ⟨rb, ro, ha, hrb, hsz0⟩ := HL.out.sz hrl
  have HRA : Hid (R.a = some ⟨rb, ro, none⟩) := ha
  obtain ⟨ra, Hra⟩ := hid_ex R.a
  rw [← Hra.out] at HW1 ⊢
  rw [← Hra.out] at ha
  subst ha
  have HSZ : Hid (w.cell? ⟨rb, ro, none⟩ = some (.int .i64 (R.sz 0))) := by have := hsz0; rw [Nat.zero_mul, Nat.add_zero] at this; exact this
  have HRB : Hid (rb < w.heap.size) := hrb
  clear hsz0 hrb
  go_enter Tryz.func22, Tryz.ntmps22
  go_wp2_with fail
  rw [← HW1.out]
  clear HW1
  go_loopw [5, 6] (fun o i wr => ∃ (k : Nat) (ys : List Ev), k ≤ fs.length ∧ i = .int .i64 (k : Int) ∧ Hid (OwnE wr w1.heap.size o ys) ∧ Hid (EvR wr ys) ∧ Hid (ys.map evE = enF R (fs.take k)) ∧ Hid (Below w1.heap.size w1 wr)) (fun _ i _ => fs.length - (intOf i).toNat)
  case atStart => exact ⟨0, [], by omega, rfl, OwnE.nil _ _, (fun x hx => by cases hx), by show _ = _; rw [List.take_zero]; rfl, Below.refl _ _⟩
  case round =>
    obtain ⟨k, ys, hk, rfl, HO, HV, HM, HW⟩ := hrel
    have HBr : Hid (Below w.heap.size w wr) := HB1.out.trans (HW.out.mono HB1.out.size)
    have HXr : Hid (RBox R w.heap.size wr) := HX1.out.below HW.out
    obtain ⟨oa, oc, rfl, _⟩ := HO.out.rc.form
    by_cases hlt : k < fs.length
    · obtain ⟨b, off, hv, hbw, hcw, hsr, hfb⟩ := FReads.at HF.out hlt
      subst hv
      have HSN : Hid (enF R (fs.take (k + 1)) = ins (fcE R fs[k]) (enF R (fs.take k))) := by
        unfold Hid
        rw [List.take_succ_eq_append_getElem hlt]
        exact enF_snoc R _ _
      have hmy : mayF fs[k] = true := HMy.out _ (List.getElem_mem hlt)
      obtain ⟨X, HX⟩ := hid_ex fs[k]
      rw [← HX.out] at hcw hsr hfb HSN hmy
      obtain ⟨Xv, D, t, x⟩ := X
      simp only at hsr
      unfold mayF at hmy
      simp only [Bool.and_eq_true] at hmy
      have hfl := floor0 HR.out hmy.1
      have HFV : Hid (floorV t (R.sz 0) = .tuple #[.int .i64 (t - t % R.sz 0), .int .i64 0]) := floor_fact HR.out hmy.1
      have HRT : Hid (rightBK D (t - t % R.sz 0) 0 = true) := by
        unfold Hid rightBK
        rw [hmy.2, Bool.true_and, decide_eq_true_eq]
        omega
      have HFC : Hid (fcE R ⟨Xv, D, t, x⟩ = (kb D (t - t % R.sz 0) 0, oneF x)) := rfl
      rw [HFC.out] at HSN
      have hx1 := hfb.x1
      have hx2 := hfb.x2
      simp only at hx1 hx2
      have HSR : Hid (SReads w Xv D) := hsr
      obtain ⟨va, vc, rfl, _⟩ := hsr.form
      obtain ⟨s, Hs⟩ := hid_ex (R.sz 0)
      rw [← Hs.out] at HFV HSZ
      obtain ⟨fl, Hfl⟩ := hid_ex (t - t % s)
      rw [Hs.out] at Hfl
      rw [← Hfl.out] at HRT HSN hfl
      rw [Hs.out, ← Hfl.out, ← Hs.out] at HFV
      obtain ⟨kk, Hkk⟩ := hid_ex (kb D fl 0)
      rw [← Hkk.out] at HSN
      obtain ⟨dn, Hdn⟩ := hid_ex D.length
      rw [← Hdn.out] at HSR hcw
      have c0 : wr.cell? ⟨b, off + k * 3, none⟩ = some (.slice va dn vc) := (HBr.out.cell (p := ⟨b, off + k * 3, none⟩) hbw).trans (hcw 0 (by decide))
      have c1 : wr.cell? ⟨b, off + k * 3 + 1, none⟩ = some (.int .i64 t) := (HBr.out.cell (p := ⟨b, off + k * 3 + 1, none⟩) hbw).trans (hcw 1 (by decide))
      have c2 : w.cell? ⟨b, off + k * 3 + 2, none⟩ = some (.int .i64 x) := hcw 2 (by decide)
      have HC2 : Hid (w.cell? ⟨b, off + k * 3 + 2, none⟩ = some (.int .i64 x)) := c2
      have HBW : Hid (b < w.heap.size) := hbw
      have hsz : wr.cell? ⟨rb, ro, none⟩ = some (.int .i64 s) := (HBr.out.cell (p := ⟨rb, ro, none⟩) HRB.out).trans HSZ.out
      obtain ⟨r0, r1⟩ := HXr.out.at
      rw [HRA.out] at r0
      clear hcw hsr hfb hmy HX Hs Hfl Hdn c2 hbw r1
      go_wp2_with fail
      go_quiet (exact (refFloor_any t s _).mono (fun e w h => ⟨by rw [h.1, HFV.out], _, h.2⟩))
      obtain ⟨w3, HW3⟩ := hid_ex (wr.drewN nq)
      have hb3 : Below wr.heap.size wr w3 := by rw [HW3.out]; exact below_drewN (Below.refl _ _) nq
      have HB3 : Hid (Below wr.heap.size wr w3) := hb3
      have j0 : w3.cell? ⟨b, off + k * 3, none⟩ = some (.slice va dn vc) := by rw [HW3.out]; exact c0
      rw [← HW3.out]
      clear c0 c1 r0 hsz hb3 HW3
      go_wp2_with fail
      refine (refWrite_yes ⟨.slice va dn vc, D, fl, 0⟩ HRT.out _ ⟨(HSR.out.below HBr.out).below HB3.out, by simp only; omega, by simp only; omega, by simp only; omega, by simp only; omega⟩).mono ?_
      rintro e w4 ⟨v4, rfl, ho4, hb4⟩
      have hb4' : Below wr.heap.size wr w4 := HB3.out.trans (hb4.mono HB3.out.size)
      have HB4 : Hid (Below wr.heap.size wr w4) := hb4'
      have HBw4 : Hid (Below w.heap.size w w4) := HBr.out.trans (hb4'.mono HBr.out.size)
      have HR4 : Hid (Reads w4 v4 kk) := by rw [Hkk.out]; exact ho4.reads
      obtain ⟨a4, c4, rfl, _⟩ := HR4.out.form
      have j2 : w4.cell? ⟨b, off + k * 3 + 2, none⟩ = some (.int .i64 x) := (HBw4.out.cell (p := ⟨b, off + k * 3 + 2, none⟩) HBW.out).trans HC2.out
      clear ho4 hb4 hb4' j0
      go_wp2_with fail
      refine (refOne_any x hx1 hx2 _).mono ?_
      rintro e w5 ⟨rfl, hb5⟩
      have HGO : Hid (Gd (oneF x)) := oneF_gd x
      obtain ⟨O, HOn⟩ := hid_ex (oneF x)
      rw [← HOn.out] at HGO HSN ⊢
      have HB5 : Hid (Below wr.heap.size wr w5) := HB4.out.trans (hb5.mono HB4.out.size)
      have HR5 : Hid (Reads w5 (.slice a4 kk.length c4) kk) := HR4.out.below hb5
      have HO5 : Hid (OwnE w5 w1.heap.size (.slice oa ys.length oc) ys) := HO.out.below HB5.out
      have HV5 : Hid (EvR w5 ys) := HV.out.below HB5.out
      have HM5 : Hid (enF R (fs.take (k + 1)) = ins (kk, O) (ys.map evE)) := by unfold Hid; rw [HSN.out, HM.out]
      have HGY : Hid (GdE (ys.map evE)) := by unfold Hid; rw [HM.out]; exact can_gd (en_gd R _)
      have HYL : Hid (ys.length ≤ 100000000) := by
        unfold Hid
        rw [← List.length_map (f := evE), HM.out]
        have h1 := enF_len R (fs.take k)
        have h2 := List.length_take_le k fs
        omega
      have HBw5 : Hid (Below w1.heap.size w1 w5) := HW.out.trans (HB5.out.mono HW.out.size)
      clear hb5 j2 HOn HSN HM HO HV
      go_wp2_with fail
      refine (refPut_own w5 _ ys _ kk O _ (Below.refl _ _) HO5.out.rc HV5.out HR5.out HGO.out HGY.out HYL.out).mono ?_
      rintro e w6 ⟨v6, zs, rfl, hO6, hE6, hm6, hb6⟩
      have HO6 : Hid (OwnE w6 w1.heap.size v6 zs) := own_mono hO6 HBw5.out.size
      have HE6 : Hid (EvR w6 zs) := hE6.below hb6
      have HM6 : Hid (zs.map evE = enF R (fs.take (k + 1))) := by unfold Hid; rw [HM5.out]; exact hm6
      have HB6 : Hid (Below w1.heap.size w1 w6) := HBw5.out.trans (hb6.mono HBw5.out.size)
      clear hO6 hE6 hm6 hb6
      go_wp2_with fail
      go_roundw
      case rel => exact ⟨k + 1, zs, by omega, by go_num, HO6.out, HE6.out, HM6.out, HB6.out⟩
      case measure => simp [intOf]; omega
    · have HEnd : Hid (EReads wr (.slice oa ys.length oc) (enF R fs)) := by
        have h9 := HO.out.rc.reads HV.out
        rw [HM.out, List.take_of_length_le (by omega)] at h9
        exact h9
      go_wp2_with fail
      go_ret
      exact ⟨_, rfl, HEnd.out, HBr.out⟩
end Go.Proofs.YtgjcopabmdbenaaGreat
