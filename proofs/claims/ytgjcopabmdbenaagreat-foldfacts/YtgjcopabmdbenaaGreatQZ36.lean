/- RQ4, joined. -/
import Derived.Test.YtgjcopabmdbenaaGreatQZ27
import Derived.Test.YtgjcopabmdbenaaGreatQZ33
import Derived.Test.YtgjcopabmdbenaaGreatQZ34
import Derived.Test.YtgjcopabmdbenaaGreatQZ35
/- The contract of the reference's Fold (layer 15). -/
namespace Go.Proofs.YtgjcopabmdbenaaGreat
open Go.RowKit

/-- What is known of an entry that fits. -/
theorem fit_at {R : Rl} {x : En} (h : FitE R x) : ∃ D f, ∃ g : Nat, rdF x.1 = some (D, f, (g : Int)) ∧ Beg R f g ∧ ∀ wm, fk R wm x.1 = if goneB R wm f then none else some (kb D (flq R wm f g) ((stq R wm f g : Nat) : Int)) := by
  obtain ⟨D, f, g, hr, hb⟩ := h.k
  obtain ⟨_, _, _, h4, _⟩ := rdF_key hr
  have e : ((g.toNat : Nat) : Int) = g := by omega
  exact ⟨D, f, g.toNat, by rw [e]; exact hr, hb, fun wm => fk_of hr⟩
theorem fit_gd {R : Rl} {L : List En} (h : FitL R L) (hc : ∀ x ∈ L, CnOk x.2) : GdE L := fun x hx => ⟨hc x hx, (h x hx).r, fun h2 => absurd h2 (h x hx).c⟩
theorem kb_gone {R : Rl} {wm f : Int} {b : Bool} (h : goneB R wm f = b) {o : Option Ks} {k : Ks} (h2 : o = if goneB R wm f then none else some k) : o = if b then none else some k := by rw [h2, h]
set_option maxRecDepth 100000 in
set_option maxHeartbeats 4000000 in
theorem refFold_any (R : Rl) (wm : Int) (v : Value) (L : List En) (w : World) (hL : Lies R w.heap.size w) (hE : EReads w v L) (hl : L.length ≤ 100000) (hk : ∀ x ∈ L, x.1.length ≤ 1000) :
    Calls Tryz.prog 21 #[.agg #[.slice R.a R.len R.cap, .int .i64 R.kp], .int .i64 wm, v] w (FoPost R wm L w) := by
  have HE : Hid (EReads w v L) := hE
  have HL : Hid (Lies R w.heap.size w) := hL
  have HK : Hid (∀ x ∈ L, x.1.length ≤ 1000) := hk
  obtain ⟨a, cap, rfl, hm1, hm2⟩ := hE.form
  unfold maxLen at hm2
  clear hE hL hk
  obtain ⟨w1, HW1⟩ := hid_ex (w.alloc (.cells #[.slice R.a R.len R.cap, .int .i64 R.kp] 24))
  have HB1 : Hid (Below w.heap.size w w1) := by rw [HW1.out]; exact new_below _ _
  have HX1 : Hid (RBox R w.heap.size w1) := by rw [HW1.out]; exact RBox.new R w _
  go_enter Tryz.func21, Tryz.ntmps21
  go_wp2_with fail
  rw [← HW1.out]
  clear HW1
  refine (refCheck_any R wm _ L _ (HL.out.at HB1.out) (HE.out.below HB1.out) hl HK.out).mono ?_
  rintro e w2 ⟨rfl, hb2⟩
  have HB2 : Hid (Below w.heap.size w w2) := HB1.out.trans (hb2.mono HB1.out.size)
  have HX2 : Hid (RBox R w.heap.size w2) := HX1.out.below hb2
  clear hb2 HX1 HB1
  by_cases hc : chkF R wm L = 0
  · have HC : Hid (chkF R wm L = 0) := hc
    obtain ⟨_, hR, hT, hS, hFt⟩ := chkF_ok hc
    have HR : Hid (RightP R) := hR
    have HT : Hid (isT wm = true) := hT
    have HFt : Hid (FitL R L) := hFt
    have HGd : Hid (GdE L) := fit_gd hFt HE.out.ok
    rw [hc]
    clear hc hR hT hS hFt
    go_wp2_with fail
    go_loopw [9, 10] (fun o i wr => ∃ (k : Nat) (ys : List Ev), k ≤ L.length ∧ i = .int .i64 (k : Int) ∧ Hid (OwnE wr w2.heap.size o ys) ∧ Hid (EvR wr ys) ∧ Hid (ys.map evE = foldF R wm (L.take k)) ∧ Hid (Below w2.heap.size w2 wr)) (fun _ i _ => L.length - (intOf i).toNat)
    case atStart => exact ⟨0, [], by omega, rfl, OwnE.nil _ _, (fun x hx => by cases hx), by show _ = _; rw [List.take_zero]; rfl, Below.refl _ _⟩
    case round =>
      obtain ⟨k, ys, hk, rfl, HO, HV, HM, HW⟩ := hrel
      have HBr : Hid (Below w.heap.size w wr) := HB2.out.trans (HW.out.mono HB2.out.size)
      have HXr : Hid (RBox R w.heap.size wr) := HX2.out.below HW.out
      obtain ⟨oa, oc, rfl, _⟩ := HO.out.rc.form
      by_cases hlt : k < L.length
      · obtain ⟨b, off, cap', hv, hbw⟩ := eReads_some HE.out (by omega)
        simp at hv
        obtain ⟨rfl, rfl⟩ := hv
        obtain ⟨kv, hcw, hRw, _⟩ := eReads_at HE.out hlt rfl
        have hkl : L[k].1.length ≤ 1000 := HK.out L[k] (List.getElem_mem hlt)
        have HGx : Hid (Gd L[k].2) := HGd.out _ (List.getElem_mem hlt)
        have HSN : Hid (foldF R wm (L.take (k + 1)) = match fk R wm L[k].1 with | none => foldF R wm (L.take k) | some K => ins (K, L[k].2) (foldF R wm (L.take k))) := by
          unfold Hid
          rw [List.take_succ_eq_append_getElem hlt]
          exact foldF_snoc (fun y hy => HGd.out y (List.mem_of_mem_take hy)) (HGd.out _ (List.getElem_mem hlt))
        obtain ⟨D, f, g, hrd, hbeg, hfk0⟩ := fit_at (HFt.out _ (List.getElem_mem hlt))
        have hfk := hfk0 wm
        obtain ⟨X, HX⟩ := hid_ex L[k]
        rw [← HX.out] at hcw hRw hkl HGx HSN hrd hfk
        obtain ⟨Xk, Xa⟩ := X
        simp only at hkl hRw hrd hfk HSN HGx
        rw [hfk] at HSN
        have HRD : Hid (rdF Xk = some (D, f, (g : Int))) := hrd
        have HBE : Hid (Beg R f g) := hbeg
        have HRX : Hid (Reads wr kv Xk) := hRw.below HBr.out
        obtain ⟨ak, ck, rfl, _⟩ := HRX.out.form
        have HC0 : Hid (∀ i (hi : i < 7), wr.cell? ⟨b, off + k * 7 + i, none⟩ = some ((c7 ⟨.slice ak Xk.length ck, Xk, Xa⟩)[i]'hi)) := fun i hi => (HBr.out.cell (p := ⟨b, off + k * 7 + i, none⟩) hbw).trans (hcw i hi)
        have HBL : Hid (b < wr.heap.size) := Nat.lt_of_lt_of_le hbw HBr.out.size
        have HLr : Hid (∀ W, Below wr.heap.size wr W → Lies R W.heap.size W) := fun W hW => HL.out.at (HBr.out.trans (hW.mono HBr.out.size))
        have hkn : ¬ L.length ≤ k := by omega
        have hki : (k : Int) < (L.length : Int) := by omega
        obtain ⟨gn, Hgn⟩ := hid_ex (goneB R wm f)
        obtain ⟨K3, HK3⟩ := hid_ex (kb D (flq R wm f g) ((stq R wm f g : Nat) : Int))
        rw [← Hgn.out, ← HK3.out] at HSN
        have HKY : Hid (∀ W, Below wr.heap.size wr W → Calls Tryz.prog 43 #[.agg #[.slice R.a R.len R.cap, .int .i64 R.kp], .int .i64 wm, .slice ak Xk.length ck] W fun e w' => ∃ v', e = .returned (.tuple #[v', .bool (!gn)]) ∧ Own w' W.heap.size v' K3 ∧ Below W.heap.size W w') := fun W hW => by
          have h9 := refKey_any R HR.out wm HT.out (.slice ak Xk.length ck) Xk D f g HRD.out HBE.out W (HLr.out W hW) (HRX.out.below hW) hkl
          rw [← Hgn.out, ← HK3.out] at h9
          exact h9
        clear hcw hRw hrd hbeg hfk hfk0 hbw HX Hgn HK3
        go_wp2_with fail
        refine wp_region_noPanic ?_
        refine wp_region_held_drew (S := (fun w' => Below wr.heap.size wr w')) (by kernel_rfl) ?_ (fun hHeld => ?_)
        · exact (Below.refl _ _).drew
        refine wpAnyH_take (i := 0) (v := .agg #[.slice R.a R.len R.cap, .int .i64 R.kp]) rfl (by kernel_rfl) (by kernel_rfl) (by kernel_rfl) (fun _ _ _ h => h) (Or.inl ⟨by rfl, ?_⟩) (by assumption) ?_
        · (intro w1 hSw; (try dsimp only at hSw); obtain ⟨r0, r1⟩ := (HXr.out.below hSw).at; go_simp)
        simp only [List.getElem_toArray, List.getElem_cons_zero, Act.put, List.setIfInBounds_toArray, List.set_cons_zero, List.set_cons_succ]
        refine wpAnyH_take (i := 1) (v := .int .i64 wm) rfl (by kernel_rfl) (by kernel_rfl) (by kernel_rfl) (fun _ _ _ h => h) (Or.inl ⟨by rfl, ?_⟩) (by assumption) ?_
        · (intro w1 hSw; (try dsimp only at hSw); go_simp)
        simp only [List.getElem_toArray, List.getElem_cons_succ, List.getElem_cons_zero, Act.put, List.setIfInBounds_toArray, List.set_cons_zero, List.set_cons_succ]
        refine wpAnyH_take (i := 2) (v := .slice (some ⟨b, off, none⟩) L.length cap) rfl (by kernel_rfl) (by kernel_rfl) (by kernel_rfl) (fun _ _ _ h => h) (Or.inl ⟨by rfl, ?_⟩) (by assumption) ?_
        · (intro w1 hSw; (try dsimp only at hSw); go_simp)
        simp only [List.getElem_toArray, List.getElem_cons_succ, List.getElem_cons_zero, Act.put, List.setIfInBounds_toArray, List.set_cons_zero, List.set_cons_succ]
        refine wpAnyH_take (i := 3) (v := .int .i64 (k : Int)) rfl (by kernel_rfl) (by kernel_rfl) (by kernel_rfl) (fun _ _ _ h => h) (Or.inl ⟨by rfl, ?_⟩) (by assumption) ?_
        · (intro w1 hSw; (try dsimp only at hSw); go_simp)
        simp only [List.getElem_toArray, List.getElem_cons_succ, List.getElem_cons_zero, Act.put, List.setIfInBounds_toArray, List.set_cons_zero, List.set_cons_succ]
        refine wpAnyH_take (i := 4) (v := .pointer (some ⟨b, off + k * 7, none⟩)) rfl (by kernel_rfl) (by kernel_rfl) (by kernel_rfl) (fun _ _ _ h => h) (Or.inl ⟨by rfl, ?_⟩) (by assumption) ?_
        · (intro w1 hSw; (try dsimp only at hSw); go_simp)
        simp only [List.getElem_toArray, List.getElem_cons_succ, List.getElem_cons_zero, Act.put, List.setIfInBounds_toArray, List.set_cons_zero, List.set_cons_succ]
        refine wpAnyH_take (i := 5) (v := .pointer (some ⟨b, off + k * 7, none⟩)) rfl (by kernel_rfl) (by kernel_rfl) (by kernel_rfl) (fun _ _ _ h => h) (Or.inl ⟨by rfl, ?_⟩) (by assumption) ?_
        · (intro w1 hSw; (try dsimp only at hSw); go_simp)
        simp only [List.getElem_toArray, List.getElem_cons_succ, List.getElem_cons_zero, Act.put, List.setIfInBounds_toArray, List.set_cons_zero, List.set_cons_succ]
        refine wpAnyH_take (i := 6) (v := .slice ak Xk.length ck) rfl (by kernel_rfl) (by kernel_rfl) (by kernel_rfl) (fun _ _ _ h => h) (Or.inl ⟨by rfl, ?_⟩) (by assumption) ?_
        · (intro w1 hSw; (try dsimp only at hSw); have h1 := (hSw.cell (p := ⟨b, off + k * 7, none⟩) HBL.out).trans (HC0.out 0 (by decide)); simp only [c7, List.getElem_cons_zero] at h1; go_simp)
        simp only [List.getElem_toArray, List.getElem_cons_succ, List.getElem_cons_zero, Act.put, List.setIfInBounds_toArray, List.set_cons_zero, List.set_cons_succ]
        refine wpAnyH_ready (rs := [7]) (by kernel_rfl) (by simp) ?_
        refine AllReadyH.cons (o := _) rfl (fun K hK => ?_) AllReadyH.nil
        go_simp
        refine (HKY.out _ (Below.refl _ _).drew).mono ?_
        rintro e w3 ⟨v3, rfl, ho3, hb3⟩
        have HW3 : Hid (Below wr.heap.size wr w3) := (Below.refl wr.heap.size wr).drew.trans hb3
        have HR3 : Hid (Reads w3 v3 K3) := ho3.reads
        obtain ⟨a3, c3, rfl, _⟩ := HR3.out.form
        clear hb3 ho3
        refine hK.out _ _ ?_ (fun hHeld => ?_)
        · exact HW3.out
        clear hK K
        refine wpAnyH_take (i := 8) (v := .tuple #[.slice a3 K3.length c3, .bool (!gn)]) rfl (by kernel_rfl) (by kernel_rfl) (by kernel_rfl) (fun _ _ _ h => h) (Or.inl ⟨by rfl, ?_⟩) (by assumption) ?_
        · (intro w1 hSw; (try dsimp only at hSw); go_simp)
        simp only [List.getElem_toArray, List.getElem_cons_succ, List.getElem_cons_zero, Act.put, List.setIfInBounds_toArray, List.set_cons_zero, List.set_cons_succ]
        refine wpAnyH_take (i := 9) (v := .slice a3 K3.length c3) rfl (by kernel_rfl) (by kernel_rfl) (by kernel_rfl) (fun _ _ _ h => h) (Or.inl ⟨by rfl, ?_⟩) (by assumption) ?_
        · (intro w1 hSw; (try dsimp only at hSw); go_simp)
        simp only [List.getElem_toArray, List.getElem_cons_succ, List.getElem_cons_zero, Act.put, List.setIfInBounds_toArray, List.set_cons_zero, List.set_cons_succ]
        refine wpAnyH_take (i := 10) (v := .bool (!gn)) rfl (by kernel_rfl) (by kernel_rfl) (by kernel_rfl) (fun _ _ _ h => h) (Or.inl ⟨by rfl, ?_⟩) (by assumption) ?_
        · (intro w1 hSw; (try dsimp only at hSw); go_simp)
        simp only [List.getElem_toArray, List.getElem_cons_succ, List.getElem_cons_zero, Act.put, List.setIfInBounds_toArray, List.set_cons_zero, List.set_cons_succ]
        refine wpAnyH_take (i := 11) (v := .slice a3 K3.length c3) rfl (by kernel_rfl) (by kernel_rfl) (by kernel_rfl) (fun _ _ _ h => h) (Or.inl ⟨by rfl, ?_⟩) (by assumption) ?_
        · (intro w1 hSw; (try dsimp only at hSw); go_simp)
        simp only [List.getElem_toArray, List.getElem_cons_succ, List.getElem_cons_zero, Act.put, List.setIfInBounds_toArray, List.set_cons_zero, List.set_cons_succ]
        refine wpAnyH_take (i := 12) (v := .bool (!gn)) rfl (by kernel_rfl) (by kernel_rfl) (by kernel_rfl) (fun _ _ _ h => h) (Or.inl ⟨by rfl, ?_⟩) (by assumption) ?_
        · (intro w1 hSw; (try dsimp only at hSw); go_simp)
        simp only [List.getElem_toArray, List.getElem_cons_succ, List.getElem_cons_zero, Act.put, List.setIfInBounds_toArray, List.set_cons_zero, List.set_cons_succ]
        clear hHeld
        refine wpAnyH_done (by kernel_rfl) ?_ _
        refine NoPanic.normal ?_
        have HB3 : Hid (Below w2.heap.size w2 w3) := HW.out.trans (HW3.out.mono HW.out.size)
        have HO3 : Hid (OwnE w3 w2.heap.size (.slice oa ys.length oc) ys) := HO.out.below HW3.out
        have HV3 : Hid (EvR w3 ys) := HV.out.below HW3.out
        clear HO HV
        cases gn with
        | true =>
          have HM3 : Hid (ys.map evE = foldF R wm (L.take (k + 1))) := by unfold Hid; rw [HSN.out, HM.out]; rfl
          go_wp2_with fail
          go_roundw
          case rel => exact ⟨k + 1, ys, by omega, by go_num, HO3.out, HV3.out, HM3.out, HB3.out⟩
          case measure => simp [intOf]; omega
        | false =>
          have HM3 : Hid (foldF R wm (L.take (k + 1)) = ins (K3, Xa) (ys.map evE)) := by unfold Hid; rw [HSN.out, HM.out]; rfl
          have HGY : Hid (GdE (ys.map evE)) := by unfold Hid; rw [HM.out]; exact foldF_gd (fun y hy => HGd.out y (List.mem_of_mem_take hy))
          have HYL : Hid (ys.length ≤ 100000000) := by
            unfold Hid
            rw [← List.length_map (f := evE), HM.out]
            have h1 := foldF_len R wm (L.take k)
            have h2 := List.length_take_le k L
            omega
          have hbl : b < wr.heap.size := HBL.out
          have c1 : w3.cell? ⟨b, off + k * 7 + 1, none⟩ = some (.int .u64 Xa.c) := (HW3.out.cell (p := ⟨b, off + k * 7 + 1, none⟩) hbl).trans (HC0.out 1 (by decide))
          have c2 : w3.cell? ⟨b, off + k * 7 + 1 + 1, none⟩ = some (.bool Xa.o) := (HW3.out.cell (p := ⟨b, off + k * 7 + 2, none⟩) hbl).trans (HC0.out 2 (by decide))
          have c3' : w3.cell? ⟨b, off + k * 7 + 1 + 2, none⟩ = some (.int .i64 (hi Xa.s)) := (HW3.out.cell (p := ⟨b, off + k * 7 + 3, none⟩) hbl).trans (HC0.out 3 (by decide))
          have c4 : w3.cell? ⟨b, off + k * 7 + 1 + 3, none⟩ = some (.int .u64 (lo Xa.s)) := (HW3.out.cell (p := ⟨b, off + k * 7 + 4, none⟩) hbl).trans (HC0.out 4 (by decide))
          have c5 : w3.cell? ⟨b, off + k * 7 + 1 + 4, none⟩ = some (.int .i64 Xa.mn) := (HW3.out.cell (p := ⟨b, off + k * 7 + 5, none⟩) hbl).trans (HC0.out 5 (by decide))
          have c6 : w3.cell? ⟨b, off + k * 7 + 1 + 5, none⟩ = some (.int .i64 Xa.mx) := (HW3.out.cell (p := ⟨b, off + k * 7 + 6, none⟩) hbl).trans (HC0.out 6 (by decide))
          clear hbl HSN HM
          go_wp2_with fail
          refine (refPut_own w3 _ ys _ K3 Xa _ (Below.refl _ _) HO3.out.rc HV3.out HR3.out HGx.out HGY.out HYL.out).mono ?_
          rintro e w4 ⟨v4, zs, rfl, hO4, hE4, hm4, hb4⟩
          have HO4 : Hid (OwnE w4 w2.heap.size v4 zs) := own_mono hO4 HB3.out.size
          have HE4 : Hid (EvR w4 zs) := hE4.below hb4
          have HM4 : Hid (zs.map evE = foldF R wm (L.take (k + 1))) := by unfold Hid; rw [HM3.out]; exact hm4
          have HB4 : Hid (Below w2.heap.size w2 w4) := HB3.out.trans (hb4.mono HB3.out.size)
          clear hO4 hE4 hm4 hb4 c1 c2 c3' c4 c5 c6
          go_wp2_with fail
          go_roundw
          case rel => exact ⟨k + 1, zs, by omega, by go_num, HO4.out, HE4.out, HM4.out, HB4.out⟩
          case measure => simp [intOf]; omega
      · have HEnd : Hid (FoPost R wm L w (.returned (.tuple #[.slice oa ys.length oc, .int .i64 0])) wr) := by
          refine ⟨HBr.out, .inr ⟨HC.out, _, rfl, ?_⟩⟩
          have h9 := HO.out.rc.reads HV.out
          rw [HM.out, List.take_of_length_le (by omega)] at h9
          exact h9
        go_wp2_with fail
        go_ret2
        exact HEnd.out
  · have hb0 : (chkF R wm L == 0) = false := by simp [hc]
    have HEnd : Hid (FoPost R wm L w (.returned (.tuple #[.slice none 0 0, .int .i64 (chkF R wm L)])) w2) := ⟨HB2.out, .inl ⟨hc, rfl⟩⟩
    obtain ⟨E, HEE⟩ := hid_ex (chkF R wm L)
    rw [← HEE.out] at hb0 hc HEnd ⊢
    go_wp2_with fail
    go_ret2
    exact HEnd.out
end Go.Proofs.YtgjcopabmdbenaaGreat
