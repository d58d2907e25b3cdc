/- FL10 RQ4 RQ5 FL11, joined. -/
import Derived.Test.YtiamjcgfmfbnoaaQG27
import Derived.Test.YtiamjcgfmfbnoaaQG35
import Derived.Test.YtiamjcgfmfbnoaaQG37
import Derived.Shelf.Abstract
import Derived.BigQuiet
import Derived.Deep.QuietTactic
/- The contract of fold.Fold; of law15's Great. -/
namespace Go.Proofs.Ytiamjcgfmfbnoaa
open Go.RowKit

/-- What Fold tells. -/
def FoPost (R : Rl) (wm : Int) (L : List En) (w : World) (e : Ending) (w' : World) : Prop :=
  Below w.heap.size w w' ∧ ((chkF R wm L ≠ 0 ∧ e = .returned (.tuple #[.slice none 0 0, .int .i64 (chkF R wm L)])) ∨ (chkF R wm L = 0 ∧ ∃ v, e = .returned (.tuple #[v, .int .i64 0]) ∧ EReads w' v (foldF R wm L)))
set_option maxRecDepth 100000 in
set_option maxHeartbeats 4000000 in
theorem fold_any (R : Rl) (wm : Int) (v : Value) (L : List En) (w : World) (hL : Lies R w.heap.size w) (hE : EReads w v L) (hl : L.length ≤ 100000) (hk : ∀ x ∈ L, x.1.length ≤ 1000) :
    Calls Try.prog 6 #[.agg #[.slice R.a R.len R.cap, .int .i64 R.kp], .int .i64 wm, v] w (FoPost R wm L w) := by
  have HE : Hid (EReads w v L) := hE
  have HL : Hid (Lies R w.heap.size w) := hL
  have HK : Hid _ := hk
  obtain ⟨a, cap, rfl, hm1, hm2⟩ := hE.form
  unfold maxLen at hm2
  clear hE hL hk
  obtain ⟨w1, HW1⟩ := hid_ex (w.alloc (.cells #[.slice R.a R.len R.cap, .int .i64 R.kp] 24))
  have hb1 : Below w.heap.size w w1 := by rw [HW1.out]; exact new_below _ _
  have HX1 : Hid (RBox R w.heap.size w1) := by rw [HW1.out]; exact RBox.new R w _
  have HL1 : Hid (Lies R w1.heap.size w1) := HL.out.at hb1
  have HE1 : Hid (EReads w1 (.slice a L.length cap) L) := HE.out.below hb1
  have HB1 : Hid _ := hb1
  clear hb1
  go_enter Try.func6, Try.ntmps6
  go_wp2_with fail
  rw [← HW1.out]
  clear HW1
  refine (checked_any R wm _ L _ HL1.out HE1.out hl HK.out).mono ?_
  rintro e w2 ⟨hb2, ⟨hne, rfl⟩ | ⟨hz, xa, xc, xs, rfl, ht, hm, hok⟩⟩
  · have hb0 : (chkF R wm L == 0) = false := by simp [hne]
    have HEnd : Hid (FoPost R wm L w (.returned (.tuple #[.slice none 0 0, .int .i64 (chkF R wm L)])) w2) := ⟨HB1.out.trans (hb2.mono HB1.out.size), .inl ⟨hne, rfl⟩⟩
    clear hne hb2
    generalize chkF R wm L = rr at *
    go_wp2_with fail
    go_ret2
    exact HEnd.out
  · obtain ⟨_, hR, hwt, _, _⟩ := chkF_ok hz
    have HZ : Hid (chkF R wm L = 0) := hz
    have HM : Hid (xs.map itE = L) := hm
    have HB2 : Hid (Below w.heap.size w w2) := HB1.out.trans (hb2.mono HB1.out.size)
    have HX2 : Hid (RBox R w.heap.size w2) := HX1.out.below hb2
    have HT : Hid (TReads w2 (.slice xa L.length xc) xs) := ht
    have hxl : xs.length ≤ 100000 := by have h := congrArg List.length hm; simp at h; omega
    have HOK : Hid _ := hok
    have HR : Hid (RightP R) := hR
    have HL2 : Hid (Lies R w2.heap.size w2) := HL.out.at HB2.out
    obtain ⟨r0, r1⟩ := HX2.out.at
    clear hz hb2 ht hm hok hR HB1 HX1 HL1 HE1
    go_wp2_with fail
    refine (folded_any R HR.out wm hwt _ xs _ HL2.out HT.out HOK.out hxl).mono ?_
    rintro e w3 ⟨v', ys, rfl, ho, hm3, hc3, hb3⟩
    have hrd := ho.reads hc3
    rw [hm3, HM.out] at hrd
    have HEnd : Hid (FoPost R wm L w (.returned (.tuple #[v', .int .i64 0])) w3) := ⟨HB2.out.trans (hb3.mono HB2.out.size), .inr ⟨HZ.out, v', rfl, hrd⟩⟩
    obtain ⟨ya, yc, rfl, _⟩ := hrd.form
    clear ho hm3 hc3 hb3 hrd r0 r1
    go_wp2_with fail
    go_ret2
    exact HEnd.out
def okRow15 (r : List En) : Prop := r.length ≤ 60 ∧ ∀ x ∈ r, x.1.length ≤ 300
def Gt15 (L : List En) (w : World) (e : Ending) (w' : World) : Prop := ∃ g : Bool, e = .returned (.bool g) ∧ (g = false → okRow15 L) ∧ w' = w
set_option maxRecDepth 100000 in
set_option maxHeartbeats 2000000 in
theorem great15_any (v : Value) (L : List En) (w : World) (hE : EReads w v L) : Calls Try.prog 4 #[v] w (Gt15 L w) := by
  have HE : Hid (EReads w v L) := hE
  obtain ⟨a, cap, rfl, hm1, hm2⟩ := hE.form
  unfold maxLen at hm2
  clear hE
  by_cases h60 : L.length ≤ 60
  · go_enter Try.func4, Try.ntmps4
    go_wp2_with fail
    go_loopw [3] (fun i wr => ∃ k : Nat, ∃ hk : k ≤ L.length, i = .int .i64 (k : Int) ∧ Hid (∀ j (hj : j < k), (L[j]'(by omega)).1.length ≤ 300) ∧ Hid (wr = w)) (fun i _ => L.length - (intOf i).toNat)
    case atStart => exact ⟨0, by omega, rfl, fun j hj => by omega, rfl⟩
    case round =>
      obtain ⟨k, hk, rfl, HJ, HW⟩ := hrel
      obtain rfl := HW.out
      clear HW
      by_cases hlt : k < L.length
      · obtain ⟨b, off, sa, sc, hef, hcm⟩ := eReads_key HE.out hlt
        subst hef
        have HNJ : Hid (L[k].1.length ≤ 300 → ∀ j (hj : j < k + 1), (L[j]'(by omega)).1.length ≤ 300) := fun h0 j hj => by
          rcases Nat.lt_or_ge j k with h1 | h1
          · exact HJ.out j h1
          · obtain rfl : j = k := by omega
            exact h0
        obtain ⟨X, HX⟩ := hid_ex L[k].1.length
        rw [← HX.out] at hcm HNJ
        by_cases h300 : X ≤ 300
        · have HN2 : Hid _ := HNJ.out h300
          clear HX
          go_wp2_with fail
          go_roundw
          case rel => exact ⟨k + 1, by omega, by go_num, HN2, trivial⟩
          case measure => simp [intOf]; omega
        · clear HX
          go_wp2_with fail
          go_ret
          exact ⟨true, rfl, fun h => (by cases h), rfl⟩
      · obtain rfl : k = L.length := by omega
        go_wp2_with fail
        go_ret
        refine ⟨false, rfl, fun _ => ⟨h60, fun x hx => ?_⟩, rfl⟩
        obtain ⟨j, hj, rfl⟩ := List.getElem_of_mem hx
        exact HJ.out j hj
  · go_enter Try.func4, Try.ntmps4
    go_wp2_with fail
    go_ret
    exact ⟨true, rfl, fun h => (by cases h), rfl⟩
end Go.Proofs.Ytiamjcgfmfbnoaa

/- The contract of the reference's Fold (layer 15). -/
namespace Go.Proofs.Ytiamjcgfmfbnoaa
open Go.RowKit

/-- What is known of an entry that fits. -/
theorem fit_at {R : Rl} {x : En} (h : FitE R x) : ∃ D f, ∃ g : Nat, rdF x.1 = some (D, f, (g : Int)) ∧ Beg R f g ∧ ∀ wm, fk R wm x.1 = if goneB R wm f then none else some (kb D (flq R wm f g) ((stq R wm f g : Nat) : Int)) := by
  obtain ⟨D, f, g, hr, hb⟩ := h.k
  obtain ⟨_, _, _, h4, _⟩ := rdF_key hr
  have e : ((g.toNat : Nat) : Int) = g := by omega
  exact ⟨D, f, g.toNat, by rw [e]; exact hr, hb, fun wm => fk_of hr⟩
theorem fit_gd {R : Rl} {L : List En} (h : FitL R L) (hc : ∀ x ∈ L, CnOk x.2) : GdE L := fun x hx => ⟨hc x hx, (h x hx).r, fun h2 => absurd h2 (h x hx).c⟩
theorem kb_gone {R : Rl} {wm f : Int} {b : Bool} (h : goneB R wm f = b) {o : Option Ks} {k : Ks} (h2 : o = if goneB R wm f then none else some k) : o = if b then none else some k := by rw [h2, h]
set_option maxRecDepth 100000 in
set_option maxHeartbeats 4000000 in
theorem refFold_any (R : Rl) (wm : Int) (v : Value) (L : List En) (w : World) (hL : Lies R w.heap.size w) (hE : EReads w v L) (hl : L.length ≤ 100000) (hk : ∀ x ∈ L, x.1.length ≤ 1000) :
    Calls Try.prog 7 #[.agg #[.slice R.a R.len R.cap, .int .i64 R.kp], .int .i64 wm, v] w (FoPost R wm L w) := by
  have HE : Hid (EReads w v L) := hE
  have HL : Hid (Lies R w.heap.size w) := hL
  have HK : Hid (∀ x ∈ L, x.1.length ≤ 1000) := hk
  obtain ⟨a, cap, rfl, hm1, hm2⟩ := hE.form
  unfold maxLen at hm2
  clear hE hL hk
  obtain ⟨w1, HW1⟩ := hid_ex (w.alloc (.cells #[.slice R.a R.len R.cap, .int .i64 R.kp] 24))
  have HB1 : Hid (Below w.heap.size w w1) := by rw [HW1.out]; exact new_below _ _
  have HX1 : Hid (RBox R w.heap.size w1) := by rw [HW1.out]; exact RBox.new R w _
  go_enter Try.func7, Try.ntmps7
  go_wp2_with fail
  rw [← HW1.out]
  clear HW1
  refine (refCheck_any R wm _ L _ (HL.out.at HB1.out) (HE.out.below HB1.out) hl HK.out).mono ?_
  rintro e w2 ⟨rfl, hb2⟩
  have HB2 : Hid (Below w.heap.size w w2) := HB1.out.trans (hb2.mono HB1.out.size)
  have HX2 : Hid (RBox R w.heap.size w2) := HX1.out.below hb2
  clear hb2 HX1 HB1
  by_cases hc : chkF R wm L = 0
  · have HC : Hid (chkF R wm L = 0) := hc
    obtain ⟨_, hR, hT, hS, hFt⟩ := chkF_ok hc
    have HR : Hid (RightP R) := hR
    have HT : Hid (isT wm = true) := hT
    have HFt : Hid (FitL R L) := hFt
    have HGd : Hid (GdE L) := fit_gd hFt HE.out.ok
    rw [hc]
    clear hc hR hT hS hFt
    go_wp2_with fail
    go_loopw [9, 10] (fun o i wr => ∃ (k : Nat) (ys : List Ev), k ≤ L.length ∧ i = .int .i64 (k : Int) ∧ Hid (OwnE wr w2.heap.size o ys) ∧ Hid (EvR wr ys) ∧ Hid (ys.map evE = foldF R wm (L.take k)) ∧ Hid (Below w2.heap.size w2 wr)) (fun _ i _ => L.length - (intOf i).toNat)
    case atStart => exact ⟨0, [], by omega, rfl, OwnE.nil _ _, (fun x hx => by cases hx), by show _ = _; rw [List.take_zero]; rfl, Below.refl _ _⟩
    case round =>
      obtain ⟨k, ys, hk, rfl, HO, HV, HM, HW⟩ := hrel
      have HBr : Hid (Below w.heap.size w wr) := HB2.out.trans (HW.out.mono HB2.out.size)
      have HXr : Hid (RBox R w.heap.size wr) := HX2.out.below HW.out
      obtain ⟨oa, oc, rfl, _⟩ := HO.out.rc.form
      by_cases hlt : k < L.length
      · obtain ⟨b, off, cap', hv, hbw⟩ := eReads_some HE.out (by omega)
        simp at hv
        obtain ⟨rfl, rfl⟩ := hv
        obtain ⟨kv, hcw, hRw, _⟩ := eReads_at HE.out hlt rfl
        have hkl : L[k].1.length ≤ 1000 := HK.out L[k] (List.getElem_mem hlt)
        have HGx : Hid (Gd L[k].2) := HGd.out _ (List.getElem_mem hlt)
        have HSN : Hid (foldF R wm (L.take (k + 1)) = match fk R wm L[k].1 with | none => foldF R wm (L.take k) | some K => ins (K, L[k].2) (foldF R wm (L.take k))) := by
          unfold Hid
          rw [List.take_succ_eq_append_getElem hlt]
          exact foldF_snoc (fun y hy => HGd.out y (List.mem_of_mem_take hy)) (HGd.out _ (List.getElem_mem hlt))
        obtain ⟨D, f, g, hrd, hbeg, hfk0⟩ := fit_at (HFt.out _ (List.getElem_mem hlt))
        have hfk := hfk0 wm
        obtain ⟨X, HX⟩ := hid_ex L[k]
        rw [← HX.out] at hcw hRw hkl HGx HSN hrd hfk
        obtain ⟨Xk, Xa⟩ := X
        simp only at hkl hRw hrd hfk HSN HGx
        rw [hfk] at HSN
        have HRD : Hid (rdF Xk = some (D, f, (g : Int))) := hrd
        have HBE : Hid (Beg R f g) := hbeg
        have HRX : Hid (Reads wr kv Xk) := hRw.below HBr.out
        obtain ⟨ak, ck, rfl, _⟩ := HRX.out.form
        have HC0 : Hid (∀ i (hi : i < 7), wr.cell? ⟨b, off + k * 7 + i, none⟩ = some ((c7 ⟨.slice ak Xk.length ck, Xk, Xa⟩)[i]'hi)) := fun i hi => (HBr.out.cell (p := ⟨b, off + k * 7 + i, none⟩) hbw).trans (hcw i hi)
        have HBL : Hid (b < wr.heap.size) := Nat.lt_of_lt_of_le hbw HBr.out.size
        have HLr : Hid (∀ W, Below wr.heap.size wr W → Lies R W.heap.size W) := fun W hW => HL.out.at (HBr.out.trans (hW.mono HBr.out.size))
        have hkn : ¬ L.length ≤ k := by omega
        have hki : (k : Int) < (L.length : Int) := by omega
        obtain ⟨gn, Hgn⟩ := hid_ex (goneB R wm f)
        obtain ⟨K3, HK3⟩ := hid_ex (kb D (flq R wm f g) ((stq R wm f g : Nat) : Int))
        rw [← Hgn.out, ← HK3.out] at HSN
        have HKY : Hid (∀ W, Below wr.heap.size wr W → Calls Try.prog 18 #[.agg #[.slice R.a R.len R.cap, .int .i64 R.kp], .int .i64 wm, .slice ak Xk.length ck] W fun e w' => ∃ v', e = .returned (.tuple #[v', .bool (!gn)]) ∧ Own w' W.heap.size v' K3 ∧ Below W.heap.size W w') := fun W hW => by
          have h9 := refKey_any R HR.out wm HT.out (.slice ak Xk.length ck) Xk D f g HRD.out HBE.out W (HLr.out W hW) (HRX.out.below hW) hkl
          rw [← Hgn.out, ← HK3.out] at h9
          exact h9
        clear hcw hRw hrd hbeg hfk hfk0 hbw HX Hgn HK3
        go_wp2_with fail
        refine wp_region_noPanic ?_
        refine wp_region_held_drew (S := (fun w' => Below wr.heap.size wr w')) (by kernel_rfl) ?_ (fun hHeld => ?_)
        · exact (Below.refl _ _).drew
        refine wpAnyH_take (i := 0) (v := .agg #[.slice R.a R.len R.cap, .int .i64 R.kp]) rfl (by kernel_rfl) (by kernel_rfl) (by kernel_rfl) (fun _ _ _ h => h) (Or.inl ⟨by rfl, ?_⟩) (by assumption) ?_
        · (intro w1 hSw; (try dsimp only at hSw); obtain ⟨r0, r1⟩ := (HXr.out.below hSw).at; go_simp)
        simp only [List.getElem_toArray, List.getElem_cons_zero, Act.put, List.setIfInBounds_toArray, List.set_cons_zero, List.set_cons_succ]
        refine wpAnyH_take (i := 1) (v := .int .i64 wm) rfl (by kernel_rfl) (by kernel_rfl) (by kernel_rfl) (fun _ _ _ h => h) (Or.inl ⟨by rfl, ?_⟩) (by assumption) ?_
        · (intro w1 hSw; (try dsimp only at hSw); go_simp)
        simp only [List.getElem_toArray, List.getElem_cons_succ, List.getElem_cons_zero, Act.put, List.setIfInBounds_toArray, List.set_cons_zero, List.set_cons_succ]
        refine wpAnyH_take (i := 2) (v := .slice (some ⟨b, off, none⟩) L.length cap) rfl (by kernel_rfl) (by kernel_rfl) (by kernel_rfl) (fun _ _ _ h => h) (Or.inl ⟨by rfl, ?_⟩) (by assumption) ?_
        · (intro w1 hSw; (try dsimp only at hSw); go_simp)
        simp only [List.getElem_toArray, List.getElem_cons_succ, List.getElem_cons_zero, Act.put, List.setIfInBounds_toArray, List.set_cons_zero, List.set_cons_succ]
        refine wpAnyH_take (i := 3) (v := .int .i64 (k : Int)) rfl (by kernel_rfl) (by kernel_rfl) (by kernel_rfl) (fun _ _ _ h => h) (Or.inl ⟨by rfl, ?_⟩) (by assumption) ?_
        · (intro w1 hSw; (try dsimp only at hSw); go_simp)
        simp only [List.getElem_toArray, List.getElem_cons_succ, List.getElem_cons_zero, Act.put, List.setIfInBounds_toArray, List.set_cons_zero, List.set_cons_succ]
        refine wpAnyH_take (i := 4) (v := .pointer (some ⟨b, off + k * 7, none⟩)) rfl (by kernel_rfl) (by kernel_rfl) (by kernel_rfl) (fun _ _ _ h => h) (Or.inl ⟨by rfl, ?_⟩) (by assumption) ?_
        · (intro w1 hSw; (try dsimp only at hSw); go_simp)
        simp only [List.getElem_toArray, List.getElem_cons_succ, List.getElem_cons_zero, Act.put, List.setIfInBounds_toArray, List.set_cons_zero, List.set_cons_succ]
        refine wpAnyH_take (i := 5) (v := .pointer (some ⟨b, off + k * 7, none⟩)) rfl (by kernel_rfl) (by kernel_rfl) (by kernel_rfl) (fun _ _ _ h => h) (Or.inl ⟨by rfl, ?_⟩) (by assumption) ?_
        · (intro w1 hSw; (try dsimp only at hSw); go_simp)
        simp only [List.getElem_toArray, List.getElem_cons_succ, List.getElem_cons_zero, Act.put, List.setIfInBounds_toArray, List.set_cons_zero, List.set_cons_succ]
        refine wpAnyH_take (i := 6) (v := .slice ak Xk.length ck) rfl (by kernel_rfl) (by kernel_rfl) (by kernel_rfl) (fun _ _ _ h => h) (Or.inl ⟨by rfl, ?_⟩) (by assumption) ?_
        · (intro w1 hSw; (try dsimp only at hSw); have h1 := (hSw.cell (p := ⟨b, off + k * 7, none⟩) HBL.out).trans (HC0.out 0 (by decide)); simp only [c7, List.getElem_cons_zero] at h1; go_simp)
        simp only [List.getElem_toArray, List.getElem_cons_succ, List.getElem_cons_zero, Act.put, List.setIfInBounds_toArray, List.set_cons_zero, List.set_cons_succ]
        refine wpAnyH_ready (rs := [7]) (by kernel_rfl) (by simp) ?_
        refine AllReadyH.cons (o := _) rfl (fun K hK => ?_) AllReadyH.nil
        go_simp
        refine (HKY.out _ (Below.refl _ _).drew).mono ?_
        rintro e w3 ⟨v3, rfl, ho3, hb3⟩
        have HW3 : Hid (Below wr.heap.size wr w3) := (Below.refl wr.heap.size wr).drew.trans hb3
        have HR3 : Hid (Reads w3 v3 K3) := ho3.reads
        obtain ⟨a3, c3, rfl, _⟩ := HR3.out.form
        clear hb3 ho3
        refine hK.out _ _ ?_ (fun hHeld => ?_)
        · exact HW3.out
        clear hK K
        refine wpAnyH_take (i := 8) (v := .tuple #[.slice a3 K3.length c3, .bool (!gn)]) rfl (by kernel_rfl) (by kernel_rfl) (by kernel_rfl) (fun _ _ _ h => h) (Or.inl ⟨by rfl, ?_⟩) (by assumption) ?_
        · (intro w1 hSw; (try dsimp only at hSw); go_simp)
        simp only [List.getElem_toArray, List.getElem_cons_succ, List.getElem_cons_zero, Act.put, List.setIfInBounds_toArray, List.set_cons_zero, List.set_cons_succ]
        refine wpAnyH_take (i := 9) (v := .slice a3 K3.length c3) rfl (by kernel_rfl) (by kernel_rfl) (by kernel_rfl) (fun _ _ _ h => h) (Or.inl ⟨by rfl, ?_⟩) (by assumption) ?_
        · (intro w1 hSw; (try dsimp only at hSw); go_simp)
        simp only [List.getElem_toArray, List.getElem_cons_succ, List.getElem_cons_zero, Act.put, List.setIfInBounds_toArray, List.set_cons_zero, List.set_cons_succ]
        refine wpAnyH_take (i := 10) (v := .bool (!gn)) rfl (by kernel_rfl) (by kernel_rfl) (by kernel_rfl) (fun _ _ _ h => h) (Or.inl ⟨by rfl, ?_⟩) (by assumption) ?_
        · (intro w1 hSw; (try dsimp only at hSw); go_simp)
        simp only [List.getElem_toArray, List.getElem_cons_succ, List.getElem_cons_zero, Act.put, List.setIfInBounds_toArray, List.set_cons_zero, List.set_cons_succ]
        refine wpAnyH_take (i := 11) (v := .slice a3 K3.length c3) rfl (by kernel_rfl) (by kernel_rfl) (by kernel_rfl) (fun _ _ _ h => h) (Or.inl ⟨by rfl, ?_⟩) (by assumption) ?_
        · (intro w1 hSw; (try dsimp only at hSw); go_simp)
        simp only [List.getElem_toArray, List.getElem_cons_succ, List.getElem_cons_zero, Act.put, List.setIfInBounds_toArray, List.set_cons_zero, List.set_cons_succ]
        refine wpAnyH_take (i := 12) (v := .bool (!gn)) rfl (by kernel_rfl) (by kernel_rfl) (by kernel_rfl) (fun _ _ _ h => h) (Or.inl ⟨by rfl, ?_⟩) (by assumption) ?_
        · (intro w1 hSw; (try dsimp only at hSw); go_simp)
        simp only [List.getElem_toArray, List.getElem_cons_succ, List.getElem_cons_zero, Act.put, List.setIfInBounds_toArray, List.set_cons_zero, List.set_cons_succ]
        clear hHeld
        refine wpAnyH_done (by kernel_rfl) ?_ _
        refine NoPanic.normal ?_
        have HB3 : Hid (Below w2.heap.size w2 w3) := HW.out.trans (HW3.out.mono HW.out.size)
        have HO3 : Hid (OwnE w3 w2.heap.size (.slice oa ys.length oc) ys) := HO.out.below HW3.out
        have HV3 : Hid (EvR w3 ys) := HV.out.below HW3.out
        clear HO HV
        cases gn with
        | true =>
          have HM3 : Hid (ys.map evE = foldF R wm (L.take (k + 1))) := by unfold Hid; rw [HSN.out, HM.out]; rfl
          go_wp2_with fail
          go_roundw
          case rel => exact ⟨k + 1, ys, by omega, by go_num, HO3.out, HV3.out, HM3.out, HB3.out⟩
          case measure => simp [intOf]; omega
        | false =>
          have HM3 : Hid (foldF R wm (L.take (k + 1)) = ins (K3, Xa) (ys.map evE)) := by unfold Hid; rw [HSN.out, HM.out]; rfl
          have HGY : Hid (GdE (ys.map evE)) := by unfold Hid; rw [HM.out]; exact foldF_gd (fun y hy => HGd.out y (List.mem_of_mem_take hy))
          have HYL : Hid (ys.length ≤ 100000000) := by
            unfold Hid
            rw [← List.length_map (f := evE), HM.out]
            have h1 := foldF_len R wm (L.take k)
            have h2 := List.length_take_le k L
            omega
          have hbl : b < wr.heap.size := HBL.out
          have c1 : w3.cell? ⟨b, off + k * 7 + 1, none⟩ = some (.int .u64 Xa.c) := (HW3.out.cell (p := ⟨b, off + k * 7 + 1, none⟩) hbl).trans (HC0.out 1 (by decide))
          have c2 : w3.cell? ⟨b, off + k * 7 + 1 + 1, none⟩ = some (.bool Xa.o) := (HW3.out.cell (p := ⟨b, off + k * 7 + 2, none⟩) hbl).trans (HC0.out 2 (by decide))
          have c3' : w3.cell? ⟨b, off + k * 7 + 1 + 2, none⟩ = some (.int .i64 (hi Xa.s)) := (HW3.out.cell (p := ⟨b, off + k * 7 + 3, none⟩) hbl).trans (HC0.out 3 (by decide))
          have c4 : w3.cell? ⟨b, off + k * 7 + 1 + 3, none⟩ = some (.int .u64 (lo Xa.s)) := (HW3.out.cell (p := ⟨b, off + k * 7 + 4, none⟩) hbl).trans (HC0.out 4 (by decide))
          have c5 : w3.cell? ⟨b, off + k * 7 + 1 + 4, none⟩ = some (.int .i64 Xa.mn) := (HW3.out.cell (p := ⟨b, off + k * 7 + 5, none⟩) hbl).trans (HC0.out 5 (by decide))
          have c6 : w3.cell? ⟨b, off + k * 7 + 1 + 5, none⟩ = some (.int .i64 Xa.mx) := (HW3.out.cell (p := ⟨b, off + k * 7 + 6, none⟩) hbl).trans (HC0.out 6 (by decide))
          clear hbl HSN HM
          go_wp2_with fail
          refine (refPut_own w3 _ ys _ K3 Xa _ (Below.refl _ _) HO3.out.rc HV3.out HR3.out HGx.out HGY.out HYL.out).mono ?_
          rintro e w4 ⟨v4, zs, rfl, hO4, hE4, hm4, hb4⟩
          have HO4 : Hid (OwnE w4 w2.heap.size v4 zs) := own_mono hO4 HB3.out.size
          have HE4 : Hid (EvR w4 zs) := hE4.below hb4
          have HM4 : Hid (zs.map evE = foldF R wm (L.take (k + 1))) := by unfold Hid; rw [HM3.out]; exact hm4
          have HB4 : Hid (Below w2.heap.size w2 w4) := HB3.out.trans (hb4.mono HB3.out.size)
          clear hO4 hE4 hm4 hb4 c1 c2 c3' c4 c5 c6
          go_wp2_with fail
          go_roundw
          case rel => exact ⟨k + 1, zs, by omega, by go_num, HO4.out, HE4.out, HM4.out, HB4.out⟩
          case measure => simp [intOf]; omega
      · have HEnd : Hid (FoPost R wm L w (.returned (.tuple #[.slice oa ys.length oc, .int .i64 0])) wr) := by
          refine ⟨HBr.out, .inr ⟨HC.out, _, rfl, ?_⟩⟩
          have h9 := HO.out.rc.reads HV.out
          rw [HM.out, List.take_of_length_le (by omega)] at h9
          exact h9
        go_wp2_with fail
        go_ret2
        exact HEnd.out
  · have hb0 : (chkF R wm L == 0) = false := by simp [hc]
    have HEnd : Hid (FoPost R wm L w (.returned (.tuple #[.slice none 0 0, .int .i64 (chkF R wm L)])) w2) := ⟨HB2.out, .inl ⟨hc, rfl⟩⟩
    obtain ⟨E, HEE⟩ := hid_ex (chkF R wm L)
    rw [← HEE.out] at hb0 hc HEnd ⊢
    go_wp2_with fail
    go_ret2
    exact HEnd.out
end Go.Proofs.Ytiamjcgfmfbnoaa

/- The contract of the reference's Stale (layer 15) (written by mkrq5.py out of RQ4). -/
namespace Go.Proofs.Ytiamjcgfmfbnoaa
open Go.RowKit

theorem stale_yes {R : Rl} {wm : Int} {L : List En} (hc : chkF R wm L = 0) {x : En} (hx : x ∈ L) (h : fk R wm x.1 ≠ some x.1) : stB R wm L = true := by
  unfold stB staleF
  rw [if_pos hc, List.any_eq_true]
  exact ⟨x, hx, by simpa using h⟩
theorem stale_no {R : Rl} {wm : Int} {L : List En} (hc : chkF R wm L = 0) (h : ∀ j (hj : j < L.length), fk R wm L[j].1 = some L[j].1) : stB R wm L = false := by
  unfold stB
  rw [if_pos hc]
  refine staleF_of (fun x hx => ?_)
  obtain ⟨j, hj, rfl⟩ := List.getElem_of_mem hx
  exact h j hj
set_option maxRecDepth 100000 in
set_option maxHeartbeats 4000000 in
theorem refStale_any (R : Rl) (wm : Int) (v : Value) (L : List En) (w : World) (hL : Lies R w.heap.size w) (hE : EReads w v L) (hl : L.length ≤ 100000) (hk : ∀ x ∈ L, x.1.length ≤ 1000) :
    Calls Try.prog 9 #[.agg #[.slice R.a R.len R.cap, .int .i64 R.kp], .int .i64 wm, v] w (SlPost R wm L w) := by
  have HE : Hid (EReads w v L) := hE
  have HL : Hid (Lies R w.heap.size w) := hL
  have HK : Hid (∀ x ∈ L, x.1.length ≤ 1000) := hk
  obtain ⟨a, cap, rfl, hm1, hm2⟩ := hE.form
  unfold maxLen at hm2
  clear hE hL hk
  obtain ⟨w1, HW1⟩ := hid_ex (w.alloc (.cells #[.slice R.a R.len R.cap, .int .i64 R.kp] 24))
  have HB1 : Hid (Below w.heap.size w w1) := by rw [HW1.out]; exact new_below _ _
  have HX1 : Hid (RBox R w.heap.size w1) := by rw [HW1.out]; exact RBox.new R w _
  go_enter Try.func9, Try.ntmps9
  go_wp2_with fail
  rw [← HW1.out]
  clear HW1
  refine (refCheck_any R wm _ L _ (HL.out.at HB1.out) (HE.out.below HB1.out) hl HK.out).mono ?_
  rintro e w2 ⟨rfl, hb2⟩
  have HB2 : Hid (Below w.heap.size w w2) := HB1.out.trans (hb2.mono HB1.out.size)
  have HX2 : Hid (RBox R w.heap.size w2) := HX1.out.below hb2
  clear hb2 HX1 HB1
  by_cases hc : chkF R wm L = 0
  · have HC : Hid (chkF R wm L = 0) := hc
    obtain ⟨_, hR, hT, hS, hFt⟩ := chkF_ok hc
    have HR : Hid (RightP R) := hR
    have HT : Hid (isT wm = true) := hT
    have HFt : Hid (FitL R L) := hFt
    rw [hc]
    clear hc hR hT hS hFt
    go_wp2_with fail
    go_loopw [9] (fun i wr => ∃ k : Nat, k ≤ L.length ∧ i = .int .i64 (k : Int) ∧ Hid (∀ j (hj : j < L.length), j < k → fk R wm L[j].1 = some L[j].1) ∧ Hid (Below w2.heap.size w2 wr)) (fun i _ => L.length - (intOf i).toNat)
    case atStart => exact ⟨0, by omega, rfl, (fun j hj h => by omega), Below.refl _ _⟩
    case round =>
      obtain ⟨k, hk, rfl, HN, HW⟩ := hrel
      have HBr : Hid (Below w.heap.size w wr) := HB2.out.trans (HW.out.mono HB2.out.size)
      have HXr : Hid (RBox R w.heap.size wr) := HX2.out.below HW.out
      by_cases hlt : k < L.length
      · obtain ⟨b, off, cap', hv, hbw⟩ := eReads_some HE.out (by omega)
        simp at hv
        obtain ⟨rfl, rfl⟩ := hv
        obtain ⟨kv, hcw, hRw, _⟩ := eReads_at HE.out hlt rfl
        have hkl : L[k].1.length ≤ 1000 := HK.out L[k] (List.getElem_mem hlt)
        have HYE : Hid (fk R wm L[k].1 ≠ some L[k].1 → stB R wm L = true) := fun h => stale_yes HC.out (List.getElem_mem hlt) h
        have HGO : Hid (fk R wm L[k].1 = some L[k].1 → ∀ j (hj : j < L.length), j < k + 1 → fk R wm L[j].1 = some L[j].1) := fun h2 j hj hjk => by
          rcases Nat.lt_or_ge j k with h | h
          · exact HN.out j hj h
          · have : j = k := by omega
            subst this; exact h2
        obtain ⟨D, f, g, hrd, hbeg, hfk0⟩ := fit_at (HFt.out _ (List.getElem_mem hlt))
        have hfk := hfk0 wm
        obtain ⟨X, HX⟩ := hid_ex L[k]
        rw [← HX.out] at hcw hRw hkl HYE HGO hrd hfk
        obtain ⟨Xk, Xa⟩ := X
        simp only at hkl hRw hrd hfk HYE HGO
        rw [hfk] at HYE HGO
        have HRD : Hid (rdF Xk = some (D, f, (g : Int))) := hrd
        have HBE : Hid (Beg R f g) := hbeg
        have HRX : Hid (Reads wr kv Xk) := hRw.below HBr.out
        obtain ⟨ak, ck, rfl, _⟩ := HRX.out.form
        have HC0 : Hid (∀ i (hi : i < 7), wr.cell? ⟨b, off + k * 7 + i, none⟩ = some ((c7 ⟨.slice ak Xk.length ck, Xk, Xa⟩)[i]'hi)) := fun i hi => (HBr.out.cell (p := ⟨b, off + k * 7 + i, none⟩) hbw).trans (hcw i hi)
        have HBL : Hid (b < wr.heap.size) := Nat.lt_of_lt_of_le hbw HBr.out.size
        have HLr : Hid (∀ W, Below wr.heap.size wr W → Lies R W.heap.size W) := fun W hW => HL.out.at (HBr.out.trans (hW.mono HBr.out.size))
        have hkn : ¬ L.length ≤ k := by omega
        have hki : (k : Int) < (L.length : Int) := by omega
        obtain ⟨gn, Hgn⟩ := hid_ex (goneB R wm f)
        obtain ⟨K3, HK3⟩ := hid_ex (kb D (flq R wm f g) ((stq R wm f g : Nat) : Int))
        rw [← Hgn.out, ← HK3.out] at HYE HGO
        have HKY : Hid (∀ W, Below wr.heap.size wr W → Calls Try.prog 18 #[.agg #[.slice R.a R.len R.cap, .int .i64 R.kp], .int .i64 wm, .slice ak Xk.length ck] W fun e w' => ∃ v', e = .returned (.tuple #[v', .bool (!gn)]) ∧ Own w' W.heap.size v' K3 ∧ Below W.heap.size W w') := fun W hW => by
          have h9 := refKey_any R HR.out wm HT.out (.slice ak Xk.length ck) Xk D f g HRD.out HBE.out W (HLr.out W hW) (HRX.out.below hW) hkl
          rw [← Hgn.out, ← HK3.out] at h9
          exact h9
        clear hcw hRw hrd hbeg hfk hfk0 hbw HX Hgn HK3
        go_wp2_with fail
        refine wp_region_noPanic ?_
        refine wp_region_held_drew (S := (fun w' => Below wr.heap.size wr w')) (by kernel_rfl) ?_ (fun hHeld => ?_)
        · exact (Below.refl _ _).drew
        refine wpAnyH_take (i := 0) (v := .agg #[.slice R.a R.len R.cap, .int .i64 R.kp]) rfl (by kernel_rfl) (by kernel_rfl) (by kernel_rfl) (fun _ _ _ h => h) (Or.inl ⟨by rfl, ?_⟩) (by assumption) ?_
        · (intro w1 hSw; (try dsimp only at hSw); obtain ⟨r0, r1⟩ := (HXr.out.below hSw).at; go_simp)
        simp only [List.getElem_toArray, List.getElem_cons_zero, Act.put, List.setIfInBounds_toArray, List.set_cons_zero, List.set_cons_succ]
        refine wpAnyH_take (i := 1) (v := .int .i64 wm) rfl (by kernel_rfl) (by kernel_rfl) (by kernel_rfl) (fun _ _ _ h => h) (Or.inl ⟨by rfl, ?_⟩) (by assumption) ?_
        · (intro w1 hSw; (try dsimp only at hSw); go_simp)
        simp only [List.getElem_toArray, List.getElem_cons_succ, List.getElem_cons_zero, Act.put, List.setIfInBounds_toArray, List.set_cons_zero, List.set_cons_succ]
        refine wpAnyH_take (i := 2) (v := .slice (some ⟨b, off, none⟩) L.length cap) rfl (by kernel_rfl) (by kernel_rfl) (by kernel_rfl) (fun _ _ _ h => h) (Or.inl ⟨by rfl, ?_⟩) (by assumption) ?_
        · (intro w1 hSw; (try dsimp only at hSw); go_simp)
        simp only [List.getElem_toArray, List.getElem_cons_succ, List.getElem_cons_zero, Act.put, List.setIfInBounds_toArray, List.set_cons_zero, List.set_cons_succ]
        refine wpAnyH_take (i := 3) (v := .int .i64 (k : Int)) rfl (by kernel_rfl) (by kernel_rfl) (by kernel_rfl) (fun _ _ _ h => h) (Or.inl ⟨by rfl, ?_⟩) (by assumption) ?_
        · (intro w1 hSw; (try dsimp only at hSw); go_simp)
        simp only [List.getElem_toArray, List.getElem_cons_succ, List.getElem_cons_zero, Act.put, List.setIfInBounds_toArray, List.set_cons_zero, List.set_cons_succ]
        refine wpAnyH_take (i := 4) (v := .pointer (some ⟨b, off + k * 7, none⟩)) rfl (by kernel_rfl) (by kernel_rfl) (by kernel_rfl) (fun _ _ _ h => h) (Or.inl ⟨by rfl, ?_⟩) (by assumption) ?_
        · (intro w1 hSw; (try dsimp only at hSw); go_simp)
        simp only [List.getElem_toArray, List.getElem_cons_succ, List.getElem_cons_zero, Act.put, List.setIfInBounds_toArray, List.set_cons_zero, List.set_cons_succ]
        refine wpAnyH_take (i := 5) (v := .pointer (some ⟨b, off + k * 7, none⟩)) rfl (by kernel_rfl) (by kernel_rfl) (by kernel_rfl) (fun _ _ _ h => h) (Or.inl ⟨by rfl, ?_⟩) (by assumption) ?_
        · (intro w1 hSw; (try dsimp only at hSw); go_simp)
        simp only [List.getElem_toArray, List.getElem_cons_succ, List.getElem_cons_zero, Act.put, List.setIfInBounds_toArray, List.set_cons_zero, List.set_cons_succ]
        refine wpAnyH_take (i := 6) (v := .slice ak Xk.length ck) rfl (by kernel_rfl) (by kernel_rfl) (by kernel_rfl) (fun _ _ _ h => h) (Or.inl ⟨by rfl, ?_⟩) (by assumption) ?_
        · (intro w1 hSw; (try dsimp only at hSw); have h1 := (hSw.cell (p := ⟨b, off + k * 7, none⟩) HBL.out).trans (HC0.out 0 (by decide)); simp only [c7, List.getElem_cons_zero] at h1; go_simp)
        simp only [List.getElem_toArray, List.getElem_cons_succ, List.getElem_cons_zero, Act.put, List.setIfInBounds_toArray, List.set_cons_zero, List.set_cons_succ]
        refine wpAnyH_ready (rs := [7]) (by kernel_rfl) (by simp) ?_
        refine AllReadyH.cons (o := _) rfl (fun K hK => ?_) AllReadyH.nil
        go_simp
        refine (HKY.out _ (Below.refl _ _).drew).mono ?_
        rintro e w3 ⟨v3, rfl, ho3, hb3⟩
        have HW3 : Hid (Below wr.heap.size wr w3) := (Below.refl wr.heap.size wr).drew.trans hb3
        have HR3 : Hid (Reads w3 v3 K3) := ho3.reads
        obtain ⟨a3, c3, rfl, _⟩ := HR3.out.form
        clear hb3 ho3
        refine hK.out _ _ ?_ (fun hHeld => ?_)
        · exact HW3.out
        clear hK K
        refine wpAnyH_take (i := 8) (v := .tuple #[.slice a3 K3.length c3, .bool (!gn)]) rfl (by kernel_rfl) (by kernel_rfl) (by kernel_rfl) (fun _ _ _ h => h) (Or.inl ⟨by rfl, ?_⟩) (by assumption) ?_
        · (intro w1 hSw; (try dsimp only at hSw); go_simp)
        simp only [List.getElem_toArray, List.getElem_cons_succ, List.getElem_cons_zero, Act.put, List.setIfInBounds_toArray, List.set_cons_zero, List.set_cons_succ]
        refine wpAnyH_take (i := 9) (v := .slice a3 K3.length c3) rfl (by kernel_rfl) (by kernel_rfl) (by kernel_rfl) (fun _ _ _ h => h) (Or.inl ⟨by rfl, ?_⟩) (by assumption) ?_
        · (intro w1 hSw; (try dsimp only at hSw); go_simp)
        simp only [List.getElem_toArray, List.getElem_cons_succ, List.getElem_cons_zero, Act.put, List.setIfInBounds_toArray, List.set_cons_zero, List.set_cons_succ]
        refine wpAnyH_take (i := 10) (v := .bool (!gn)) rfl (by kernel_rfl) (by kernel_rfl) (by kernel_rfl) (fun _ _ _ h => h) (Or.inl ⟨by rfl, ?_⟩) (by assumption) ?_
        · (intro w1 hSw; (try dsimp only at hSw); go_simp)
        simp only [List.getElem_toArray, List.getElem_cons_succ, List.getElem_cons_zero, Act.put, List.setIfInBounds_toArray, List.set_cons_zero, List.set_cons_succ]
        refine wpAnyH_take (i := 11) (v := .slice a3 K3.length c3) rfl (by kernel_rfl) (by kernel_rfl) (by kernel_rfl) (fun _ _ _ h => h) (Or.inl ⟨by rfl, ?_⟩) (by assumption) ?_
        · (intro w1 hSw; (try dsimp only at hSw); go_simp)
        simp only [List.getElem_toArray, List.getElem_cons_succ, List.getElem_cons_zero, Act.put, List.setIfInBounds_toArray, List.set_cons_zero, List.set_cons_succ]
        refine wpAnyH_take (i := 12) (v := .bool (!gn)) rfl (by kernel_rfl) (by kernel_rfl) (by kernel_rfl) (fun _ _ _ h => h) (Or.inl ⟨by rfl, ?_⟩) (by assumption) ?_
        · (intro w1 hSw; (try dsimp only at hSw); go_simp)
        simp only [List.getElem_toArray, List.getElem_cons_succ, List.getElem_cons_zero, Act.put, List.setIfInBounds_toArray, List.set_cons_zero, List.set_cons_succ]
        clear hHeld
        refine wpAnyH_done (by kernel_rfl) ?_ _
        refine NoPanic.normal ?_
        have HB3 : Hid (Below w2.heap.size w2 w3) := HW.out.trans (HW3.out.mono HW.out.size)
        have HBw3 : Hid (Below w.heap.size w w3) := HB2.out.trans (HB3.out.mono HB2.out.size)
        cases gn with
        | true =>
          have HE3 : Hid (∀ n, SlPost R wm L w (.returned (.tuple #[.bool true, .int .i64 0])) (w3.drewN n)) := fun n => ⟨by rw [HYE.out (by simp), HC.out], below_drewN HBw3.out n⟩
          go_wp2_with fail
          go_quiet (fail)
          have HE4 : Hid (SlPost R wm L w (.returned (.tuple #[.bool true, .int .i64 0])) (w3.drewN nq)) := HE3.out nq
          go_wp2_with fail
          go_ret2
          exact HE4.out
        | false =>
          have hq1 : ∀ n, (convert 36 9 (.slice a3 K3.length c3)).run Try.prog (w3.drewN n) = .ok (.string ⟨K3.toArray⟩) (w3.drewN n) := fun n => reads_text (HR3.out.below (below_dn2 _ n))
          have hq2 : ∀ n, (convert 36 9 (.slice ak Xk.length ck)).run Try.prog (w3.drewN n) = .ok (.string ⟨Xk.toArray⟩) (w3.drewN n) := fun n => reads_text ((HRX.out.below HW3.out).below (below_dn2 _ n))
          have c0 : w3.cell? ⟨b, off + k * 7, none⟩ = some (.slice ak Xk.length ck) := (HW3.out.cell (p := ⟨b, off + k * 7, none⟩) HBL.out).trans (HC0.out 0 (by decide))
          by_cases hKX : K3 = Xk
          · have heq : (K3 == Xk) = true := by simpa using hKX
            have HG3 : Hid (∀ j (hj : j < L.length), j < k + 1 → fk R wm L[j].1 = some L[j].1) := HGO.out (by rw [hKX]; rfl)
            subst hKX
            go_wp2_with fail
            go_quiet (fail)
            have HB4 : Hid (Below w2.heap.size w2 (w3.drewN nq)) := below_drewN HB3.out nq
            clear c0 hq1 hq2
            go_wp2_with fail
            go_roundw
            case rel => exact ⟨k + 1, by omega, by go_num, HG3.out, HB4.out⟩
            case measure => simp [intOf]; omega
          · have heq : (K3 == Xk) = false := by simpa using hKX
            have HE3 : Hid (∀ n, SlPost R wm L w (.returned (.tuple #[.bool true, .int .i64 0])) (w3.drewN n)) := fun n => ⟨by rw [HYE.out (by simpa using hKX), HC.out], below_drewN HBw3.out n⟩
            go_wp2_with fail
            go_quiet (fail)
            have HE4 : Hid (SlPost R wm L w (.returned (.tuple #[.bool true, .int .i64 0])) (w3.drewN nq)) := HE3.out nq
            clear c0 hq1 hq2
            go_wp2_with fail
            go_ret2
            exact HE4.out
      · have HEnd : Hid (SlPost R wm L w (.returned (.tuple #[.bool false, .int .i64 0])) wr) := ⟨by rw [stale_no HC.out (fun j hj => HN.out j hj (by omega)), HC.out], HBr.out⟩
        go_wp2_with fail
        go_ret2
        exact HEnd.out
  · have hb0 : (chkF R wm L == 0) = false := by simp [hc]
    have HEnd : Hid (SlPost R wm L w (.returned (.tuple #[.bool false, .int .i64 (chkF R wm L)])) w2) := ⟨by unfold stB; rw [if_neg hc], HB2.out⟩
    obtain ⟨E, HEE⟩ := hid_ex (chkF R wm L)
    rw [← HEE.out] at hb0 hc HEnd ⊢
    go_wp2_with fail
    go_ret2
    exact HEnd.out
end Go.Proofs.Ytiamjcgfmfbnoaa

/- Items of one's own; the contract of fold.order. -/
namespace Go.Proofs.Ytiamjcgfmfbnoaa
open Go.RowKit

def itK (x : It) : Ky := ⟨x.v, x.D, x.f, (x.g : Int)⟩
/-- An item as a value. -/
def itV (x : It) : Value := .agg #[x.v, .int .i64 x.f, .int .i64 (x.g : Int), .int .u64 x.a.c, .bool x.a.o, .int .i64 (hi x.a.s), .int .u64 (lo x.a.s), .int .i64 x.a.mn, .int .i64 x.a.mx]
/-- The numbers of an item are in their reach. -/
structure ItB (x : It) : Prop where
  f1 : -9223372036854775808 ≤ x.f
  f2 : x.f ≤ 9223372036854775807
  g2 : (x.g : Int) ≤ 9223372036854775807
theorem itK_lies {x : It} {w : World} (h : SReads w x.v x.D) (hb : ItB x) : KLies (itK x) w := ⟨h, hb.f1, hb.f2, by show (-9223372036854775808 : Int) ≤ (x.g : Int); omega, hb.g2⟩
def OdPost (w : World) (e : Ending) (w' : World) : Prop := ∃ c : Int, e = .returned (.int .i64 c) ∧ -1 ≤ c ∧ c ≤ 1 ∧ Below w.heap.size w w'
theorem nine_box {w : World} {a b : List Value} {t : TypeId} : ((w.alloc (.cells a.toArray t)).alloc (.cells b.toArray t)).heap[w.heap.size]? = some (.cells a.toArray t) ∧ ((w.alloc (.cells a.toArray t)).alloc (.cells b.toArray t)).heap[w.heap.size + 1]? = some (.cells b.toArray t) := by
  constructor
  · rw [Below.heap_alloc _ _ _ (by simp)]; exact heap_alloc_new _ _
  · have := heap_alloc_new (w.alloc (.cells a.toArray t)) (.cells b.toArray t)
    simpa using this
set_option maxRecDepth 100000 in
set_option maxHeartbeats 2000000 in
theorem order15_any (x y : It) (w : World) (hx : SReads w x.v x.D) (hy : SReads w y.v y.D) (bx : ItB x) (by' : ItB y) :
    Calls Try.prog 32 #[itV x, itV y] w (OdPost w) := by
  obtain ⟨xa, xc, hxv, _⟩ := hx.form
  obtain ⟨ya, yc, hyv, _⟩ := hy.form
  obtain ⟨w2, HW2⟩ := hid_ex ((w.alloc (.cells (c9 x).toArray 61)).alloc (.cells (c9 y).toArray 61))
  have HB2 : Hid (Below w.heap.size w w2) := by rw [HW2.out]; exact ((Below.refl _ _).alloc (Nat.le_refl _) _).alloc (by simp) _
  have HKX : Hid (∀ W, Below w2.heap.size w2 W → KLies (itK x) W) := fun W hW => itK_lies (hx.below (HB2.out.trans (hW.mono HB2.out.size))) bx
  have HKY : Hid (∀ W, Below w2.heap.size w2 W → KLies (itK y) W) := fun W hW => itK_lies (hy.below (HB2.out.trans (hW.mono HB2.out.size))) by'
  obtain ⟨q1, q2⟩ := nine_box (w := w) (a := c9 x) (b := c9 y) (t := 61)
  rw [← HW2.out] at q1 q2
  have HCX : Hid (∀ W, Below w2.heap.size w2 W → W.cell? ⟨w.heap.size, 0, none⟩ = some x.v ∧ W.cell? ⟨w.heap.size, 1, none⟩ = some (.int .i64 x.f) ∧ W.cell? ⟨w.heap.size, 2, none⟩ = some (.int .i64 (x.g : Int)) ∧ W.cell? ⟨w.heap.size + 1, 0, none⟩ = some y.v ∧ W.cell? ⟨w.heap.size + 1, 1, none⟩ = some (.int .i64 y.f) ∧ W.cell? ⟨w.heap.size + 1, 2, none⟩ = some (.int .i64 (y.g : Int))) := fun W hW => by
    have p1 := (hW.block _ (Array.getElem?_eq_some_iff.1 q1).1).trans q1
    have p2 := (hW.block _ (Array.getElem?_eq_some_iff.1 q2).1).trans q2
    refine ⟨by rw [Go.Joins.cell_of_block p1]; rfl, by rw [Go.Joins.cell_of_block p1]; rfl, by rw [Go.Joins.cell_of_block p1]; rfl, by rw [Go.Joins.cell_of_block p2]; rfl, by rw [Go.Joins.cell_of_block p2]; rfl, by rw [Go.Joins.cell_of_block p2]; rfl⟩
  have HLS : Hid (∀ W, Below w2.heap.size w2 W → Calls Try.prog 56 #[.agg #[x.v, .int .i64 x.f, .int .i64 (x.g : Int)], .agg #[y.v, .int .i64 y.f, .int .i64 (y.g : Int)]] W fun e w' => e = .returned (.bool (lessK (itK x) (itK y))) ∧ Below W.heap.size W w') := fun W hW => less_any (itK x) (itK y) W (HKX.out W hW) (HKY.out W hW)
  have HLT : Hid (∀ W, Below w2.heap.size w2 W → Calls Try.prog 56 #[.agg #[y.v, .int .i64 y.f, .int .i64 (y.g : Int)], .agg #[x.v, .int .i64 x.f, .int .i64 (x.g : Int)]] W fun e w' => e = .returned (.bool (lessK (itK y) (itK x))) ∧ Below W.heap.size W w') := fun W hW => less_any (itK y) (itK x) W (HKY.out W hW) (HKX.out W hW)
  obtain ⟨b1, Hb1⟩ := hid_ex (lessK (itK x) (itK y))
  obtain ⟨b2, Hb2⟩ := hid_ex (lessK (itK y) (itK x))
  rw [← Hb1.out] at HLS
  rw [← Hb2.out] at HLT
  obtain ⟨d0, d1, d2, d3, d4, d5⟩ := HCX.out w2 (Below.refl _ _)
  have HW2' : Hid ((w.alloc (.cells #[x.v, .int .i64 x.f, .int .i64 (x.g : Int), .int .u64 x.a.c, .bool x.a.o, .int .i64 (hi x.a.s), .int .u64 (lo x.a.s), .int .i64 x.a.mn, .int .i64 x.a.mx] 61)).alloc (.cells #[y.v, .int .i64 y.f, .int .i64 (y.g : Int), .int .u64 y.a.c, .bool y.a.o, .int .i64 (hi y.a.s), .int .u64 (lo y.a.s), .int .i64 y.a.mn, .int .i64 y.a.mx] 61) = w2) := HW2.out.symm
  unfold itV
  rw [hxv] at HCX HLS HLT HW2' d0 ⊢
  rw [hyv] at HCX HLS HLT HW2' d3 ⊢
  obtain ⟨xn, Hxn⟩ := hid_ex x.D.length
  obtain ⟨yn, Hyn⟩ := hid_ex y.D.length
  rw [← Hxn.out] at HCX HLS HLT HW2' d0 ⊢
  rw [← Hyn.out] at HCX HLS HLT HW2' d3 ⊢
  clear hx hy bx by' q1 q2 HKX HKY hxv hyv HW2 Hb1 Hb2
  go_enter Try.func32, Try.ntmps32
  go_wp2_with (rw [HW2'.out])
  refine (HLS.out _ (Below.refl _ _)).mono ?_
  rintro e w3 ⟨rfl, hb3⟩
  have HB3 : Hid (Below w2.heap.size w2 w3) := hb3
  clear d0 d1 d2 d3 d4 d5 hb3
  obtain ⟨d0, d1, d2, d3, d4, d5⟩ := HCX.out w3 HB3.out
  have HEnd : Hid (∀ c W, -1 ≤ c → c ≤ 1 → Below w2.heap.size w2 W → OdPost w (.returned (.int .i64 c)) W) := fun c W h1 h2 hW => ⟨c, rfl, h1, h2, HB2.out.trans (hW.mono HB2.out.size)⟩
  cases b1 with
  | true =>
    have HE : Hid (OdPost w (.returned (.int .i64 (-1))) w3) := HEnd.out _ _ (by decide) (by decide) HB3.out
    go_wp2_with fail
    go_ret
    exact HE.out
  | false =>
    go_wp2_with fail
    refine (HLT.out _ HB3.out).mono ?_
    rintro e w4 ⟨rfl, hb4⟩
    have HB4 : Hid (Below w2.heap.size w2 w4) := HB3.out.trans (hb4.mono HB3.out.size)
    clear d0 d1 d2 d3 d4 d5 hb4
    cases b2 with
    | true =>
      have HE : Hid (OdPost w (.returned (.int .i64 1)) w4) := HEnd.out _ _ (by decide) (by decide) HB4.out
      go_wp2_with fail
      go_ret
      exact HE.out
    | false =>
      have HE : Hid (OdPost w (.returned (.int .i64 0)) w4) := HEnd.out _ _ (by decide) (by decide) HB4.out
      go_wp2_with fail
      go_ret
      exact HE.out
/-- A row of items of one's own, in some order. -/
structure PmI (w : World) (base g n cap : Nat) (its0 its : List It) (W : World) : Prop where
  p : its.Perm its0
  r : W.ownsRow base 61 9 (.slice (some ⟨g, 0, none⟩) n cap) n (its.flatMap c9)
  s : ∀ x ∈ its, SReads W x.v x.D ∧ (0 < x.D.length → ∀ b, x.v.ownBlock = some b → b ≠ g) ∧ ItB x
  b : Below base w W
theorem PmI.len {w : World} {base g n cap : Nat} {its0 its : List It} {W : World} (h : PmI w base g n cap its0 its W) : its.length = n := by
  have := h.r.1
  rw [flat9_len] at this
  omega
theorem PmI.below {w : World} {base g n cap : Nat} {its0 its : List It} {W V : World} (h : PmI w base g n cap its0 its W) (hb : Below W.heap.size W V) : PmI w base g n cap its0 its V :=
  ⟨h.p, row_below h.r hb, fun x hx => ⟨(h.s x hx).1.below hb, (h.s x hx).2⟩, h.b.trans (hb.mono (by
    have h1 := (World.ownsRow.lt h.r g rfl)
    omega))⟩
theorem PmI.cells {w : World} {base g n cap : Nat} {its0 its : List It} {W : World} (h : PmI w base g n cap its0 its W) {j : Nat} (hj : j < its.length) {i : Nat} (hi : i < 9) : W.cell? ⟨g, j * 9 + i, none⟩ = some ((c9 its[j])[i]'hi) := by
  have hl := h.len
  rw [World.ownsRow.cellAt h.r _ (by omega), show j * 9 + i = 9 * j + i by omega, flat9 its j i hj hi, List.getElem?_eq_getElem (show i < (c9 its[j]).length from hi)]
  rfl
theorem row_set9 {w W : World} {base g n cap k : Nat} {cur : Array Value} {ys : List It} {y : It} (h : w.ownsRow base 61 9 (.slice (some ⟨g, 0, none⟩) n cap) n (ys.flatMap c9)) (hcur : w.heap[g]? = some (.cells cur 61))
    (hW : StW w W g (k * 9) cur 61 (c9 y)) (hn : ys.length = n) : W.ownsRow base 61 9 (.slice (some ⟨g, 0, none⟩) n cap) n ((ys.set k y).flatMap c9) := by
  obtain ⟨h1, h2⟩ := h
  refine ⟨by rw [flat9_len, List.length_set, hn], ?_⟩
  rcases h2 with ⟨h2, _⟩ | ⟨g', cap', cur0, hv, hg, hw, hc, hx, hs, ht⟩
  · simp at h2
  · have hv' := hv
    simp at hv'
    obtain ⟨rfl, rfl⟩ := hv'
    obtain rfl : cur0 = cur := by rw [hw] at hcur; simpa using hcur
    obtain ⟨cur', k1, k2, k3, k4⟩ := hW.c
    refine .inr ⟨g, cap, cur', rfl, hg, k1, hc, hx, by omega, ?_⟩
    apply List.ext_getElem?
    intro j
    rw [List.getElem?_take]
    by_cases hj : j < n * 9
    · rw [if_pos hj, Array.getElem?_toList]
      have hj7 : j / 9 < (ys.set k y).length := by simp; omega
      have e1 := flat9 (ys.set k y) (j / 9) (j % 9) hj7 (by omega)
      rw [show 9 * (j / 9) + j % 9 = j by omega] at e1
      rw [e1]
      by_cases hjk : j / 9 = k
      · have e2 : (ys.set k y)[j / 9]'hj7 = y := by simp [hjk]
        rw [e2]
        have := k4 (j % 9) (by rw [c9_len]; omega)
        rw [show k * 9 + j % 9 = j by omega] at this
        rw [this, List.getElem?_eq_getElem]
      · rw [k3 j (by rw [c9_len]; omega)]
        have e2 : (ys.set k y)[j / 9]'hj7 = ys[j / 9]'(by simpa using hj7) := by
          rw [List.getElem_set]; rw [if_neg (fun e => hjk e.symm)]
        rw [e2]
        have e3 := flat9 ys (j / 9) (j % 9) (by simpa using hj7) (by omega)
        rw [show 9 * (j / 9) + j % 9 = j by omega] at e3
        rw [← e3, ← ht, List.getElem?_take, if_pos hj, Array.getElem?_toList]
    · rw [if_neg hj, List.getElem?_eq_none (by rw [flat9_len, List.length_set]; omega)]
theorem sreads_stW {w W : World} {g off : Nat} {cur : Array Value} {T : TypeId} {vs : List Value} {v : Value} {D : List ByteArray} (h : SReads w v D) (hW : StW w W g off cur T vs) (hne : 0 < D.length → ∀ b, v.ownBlock = some b → b ≠ g) : SReads W v D := by
  rcases h with h | ⟨b, o, cap, h1, h2, h3, h4, h5, h6, h7⟩
  · exact .inl h
  · have hb := hne h2 b (by rw [h1]; rfl)
    refine .inr ⟨b, o, cap, h1, h2, h3, h4, Nat.lt_of_lt_of_le h5 (hW.b 0 (Nat.zero_le _)).size, fun j hj => ?_, h7⟩
    rw [← h6 j hj]
    exact World.cell?_of_block (hW.o b hb)
/-- Two items change places. -/
theorem PmI.swap {w : World} {base g n cap : Nat} {its0 its : List It} {A B C : World} {cur : Array Value} {i j : Nat} (h : PmI w base g n cap its0 its A) (hi : i < its.length) (hj : j < its.length) (hcur : A.heap[g]? = some (.cells cur 61)) (hB : StW A B g (i * 9) cur 61 (c9 its[j]))
    (hC : ∀ cur', B.heap[g]? = some (.cells cur' 61) → StW B C g (j * 9) cur' 61 (c9 its[i])) : PmI w base g n cap its0 ((its.set i its[j]).set j its[i]) C := by
  obtain ⟨cur', k1, k2, k3, k4⟩ := hB.c
  have hC' := hC cur' k1
  have hl := h.len
  have hgl := World.ownsRow.lt h.r g rfl
  have r1 := row_set9 h.r hcur hB hl
  have r2 := row_set9 r1 k1 hC' (by simp [hl])
  refine ⟨(List.set_set_perm hi hj).trans h.p, r2, fun x hx => ?_, (h.b.trans (hB.b _ hgl.1)).trans (hC'.b _ hgl.1)⟩
  have hm : x ∈ its := (List.set_set_perm hi hj).mem_iff.1 hx
  have hs := h.s x hm
  exact ⟨sreads_stW (sreads_stW hs.1 hB hs.2.1) hC' hs.2.1, hs.2⟩
end Go.Proofs.Ytiamjcgfmfbnoaa
