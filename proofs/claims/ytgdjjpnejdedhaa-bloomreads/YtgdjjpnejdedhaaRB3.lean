/- The contracts of the reference's New, Add and May. -/
import Derived.Test.YtgdjjpnejdedhaaRB2
import Derived.BigRegion
import Derived.Test.YtgdjjpnejdedhaaRS
namespace Go.Proofs.Ytgdjjpnejdedhaa
open Go.RowKit

theorem infoBl : (Try.prog.info? 4).map (fun i => (i.zero, i.size, i.bytes)) = some (some (.bool false), 1, 1) := by kernel_rfl
theorem rf_new {w : World} {base g n cap : Nat} {bs : List Bool} (h : Nat) (ho : w.ownsRow base 4 1 (.slice (some ⟨g, 0, none⟩) n cap) n (bs.map bcb)) (hn : n = bs.length) (h1 : 1 ≤ h) (h8 : h ≤ 8) (hd : 8 ≤ n) (hd8 : n ≤ 65536) :
    RF (w.alloc (.cells #[.slice (some ⟨g, 0, none⟩) n cap, .int .i64 (h : Int)] 53)) base (.pointer (some ⟨w.heap.size, 0, none⟩)) h bs := by
  subst hn
  have hlt := World.ownsRow.lt ho g rfl
  exact ⟨w.heap.size, g, cap, rfl, by omega, World.alloc_heap_new _ _, ho.alloc _, by omega, h1, h8, hd, hd8⟩
set_option maxRecDepth 100000 in
set_option maxHeartbeats 1000000 in
theorem refNew_ok (d h : Nat) (hok : newOk (8 * d) h) (w : World) : Calls Try.prog 12 #[.int .i64 (8 * (d : Int)), .int .i64 (h : Int)] w fun e w' => ∃ v, e = .returned (.tuple #[v, .int .i64 0]) ∧ RF w' w.heap.size v h (List.replicate (8 * d) false) ∧ Below w.heap.size w w' := by
  obtain ⟨h1, h2, h3, h4, h5⟩ := hok
  have i1 : ¬ 8 * (d : Int) < 8 := by omega
  have i2 : ¬ (65536 : Int) < 8 * (d : Int) := by omega
  have hr : (8 * (d : Int)).tmod 8 = 0 := by rw [Int.mul_tmod_right]
  obtain ⟨i0, hi, hz0, hz1, hz2⟩ := info_parts infoBl
  obtain ⟨w2, hrn, hown2, hg2⟩ := run_make_full (P := Try.prog) w w.heap.size 51 4 i0 (.bool false) 1 Try.underlying51 hi hz0 hz1 .i64 .i64 (8 * d) (by rw [hz2]; omega) (by unfold maxLen; omega) (Nat.le_refl _)
  have e2 : ((8 * d : Nat) : Int) = 8 * (d : Int) := by omega
  rw [e2] at hrn
  have HB2 : Hid (Below w.heap.size w w2) := (Below.refl _ _).grown hg2 (Nat.le_refl _) (fun k hk => by cases hk)
  have HO2 : Hid (w2.ownsRow w.heap.size 4 1 (.slice (some ⟨w.heap.size, 0, none⟩) (8 * d) (8 * d)) (8 * d) ((List.replicate (8 * d) false).map bcb)) := by
    have e0 : (Value.bool false).cells = #[.bool false] := rfl
    rw [e0, Nat.mul_one, toList_madeCells_one] at hown2
    unfold Hid; simpa [bcb] using hown2
  clear hown2 hg2 e2 hi hz0 hz1 hz2
  go_enter Try.func12, Try.ntmps12
  go_wp2_with fail
  go_ret2
  have hs2 := HB2.out.size
  exact ⟨_, rfl, rf_new h HO2.out (by simp) (by omega) (by omega) (by omega) (by omega), HB2.out.alloc hs2 _⟩
theorem refNew_no (d h : Int) (hno : ¬ newOk d h) (w : World) : Calls Try.prog 12 #[.int .i64 d, .int .i64 h] w fun e w' => e = .returned (.tuple #[.pointer none, .int .i64 1]) ∧ w' = w := by
  by_cases h1 : d < 8
  · go_enter Try.func12, Try.ntmps12
    go_wp2_with fail
    go_ret2
    exact ⟨rfl, rfl⟩
  by_cases h2 : 65536 < d
  · go_enter Try.func12, Try.ntmps12
    go_wp2_with fail
    go_ret2
    exact ⟨rfl, rfl⟩
  have et : d.tmod 8 = d % 8 := Int.tmod_eq_emod_of_nonneg (by omega)
  by_cases h3 : d % 8 = 0
  · have h4 : d.tmod 8 = 0 := by omega
    have h5 : h < 1 ∨ 8 < h := by
      unfold newOk at hno
      omega
    clear et
    by_cases h6 : h < 1
    · go_enter Try.func12, Try.ntmps12
      go_wp2_with fail
      go_ret2
      exact ⟨rfl, rfl⟩
    · have h7 : 8 < h := by omega
      go_enter Try.func12, Try.ntmps12
      go_wp2_with fail
      go_ret2
      exact ⟨rfl, rfl⟩
  · have h4 : 0 < d.tmod 8 := by omega
    clear et
    go_enter Try.func12, Try.ntmps12
    go_wp2_with fail
    go_ret2
    exact ⟨rfl, rfl⟩
set_option maxRecDepth 100000 in
set_option maxHeartbeats 1000000 in
theorem refAdd_any (v kv : Value) (h : Nat) (D key : List UInt8) (hkl : key.length ≤ 100000) (w0 w : World) (base : Nat) (hbase : base ≤ w.heap.size) (hF : RF w base v h (dgs D)) (hR : Reads w0 kv key) (h0 : Below w0.heap.size w0 w) (hb0 : w0.heap.size ≤ base) :
    Calls Try.prog 14 #[v, kv] w fun e W' => (∃ u, e = .returned u) ∧ RF W' base v h (dgs (adF D (plc key (8 * D.length) h))) ∧ Below base w W' := by
  obtain ⟨B, rfl⟩ := hF.ptr
  have HF : Hid (RF w base (.pointer (some ⟨B, 0, none⟩)) h (dgs D)) := hF
  have HR : Hid (Reads w0 kv key) := hR
  have H0 : Hid (Below w0.heap.size w0 w) := h0
  obtain ⟨ak, ck, rfl, _⟩ := hR.form
  have hfc := hF.facts
  rw [dgs_len] at hfc
  obtain ⟨hh1, hh8, hd8, hd9⟩ := hfc
  clear hF hR h0
  go_enter Try.func14, Try.ntmps14
  go_wp2_with fail
  go_loopw [4] (fun i wr => ∃ k : Nat, k ≤ h ∧ i = .int .i64 (k : Int) ∧ Hid (RF wr base (.pointer (some ⟨B, 0, none⟩)) h (dgs (adF D (plc key (8 * D.length) k)))) ∧ Hid (Below base w wr)) (fun i _ => h - (intOf i).toNat)
  case atStart => exact ⟨0, by omega, rfl, HF, Below.refl _ _⟩
  case round =>
    obtain ⟨k, hk, rfl, HX, HB⟩ := hrel
    obtain ⟨E, HE⟩ := hid_ex (adF D (plc key (8 * D.length) k))
    rw [← HE.out] at HX
    have HEL : Hid (E.length = D.length) := by rw [HE.out]; exact adF_len _ _
    obtain ⟨B', g, cap, hBe, hBB, hc, hO, hBg, _, _, _, _⟩ := id HX.out
    cases hBe
    have c1 := cell_of hc 1 (by simp)
    have c0 := cell_of hc 0 (by simp)
    simp at c0 c1
    by_cases hlt : k < h
    · have HRk : Hid (Reads wr (.slice ak key.length ck) key) := HR.out.below (H0.out.trans (HB.out.mono hb0))
      have HO : Hid (wr.ownsRow base 4 1 (.slice (some ⟨g, 0, none⟩) (dgs E).length cap) (dgs E).length ((dgs E).map bcb)) := hO
      have HC : Hid (wr.heap[B]? = some (.cells #[.slice (some ⟨g, 0, none⟩) (dgs E).length cap, .int .i64 (h : Int)] 53)) := hc
      have HCE : Hid ((dgs E).length = 8 * D.length) := by unfold Hid; rw [dgs_len, HEL.out]
      have HSZ : Hid (base ≤ wr.heap.size) := Nat.le_trans hbase HB.out.size
      have HGB : Hid (g < wr.heap.size ∧ base ≤ g) := by have := World.ownsRow.lt hO g rfl; exact ⟨this.2, this.1⟩
      have HBL : Hid (B < wr.heap.size) := (Array.getElem?_eq_some_iff.1 hc).1
      have HBG : Hid (B ≠ g) := hBg
      have HPL : Hid (pla key k % (8 * D.length) < 8 * D.length) := Nat.mod_lt _ (by omega)
      clear hO hc hBg
      go_wp2_with fail
      refine wp_region_noPanic ?_
      refine wp_region_held_drew (S := (fun w' => Below base w w' ∧ w'.heap[B]? = some (.cells #[.slice (some ⟨g, 0, none⟩) (dgs E).length cap, .int .i64 (h : Int)] 53))) (by kernel_rfl) ?_ (fun hHeld => ?_)
      · exact ⟨HB.out.drew, HC.out⟩
      refine wpAnyH_take (i := 0) (v := .pointer (some ⟨B, 0, none⟩)) rfl (by kernel_rfl) (by kernel_rfl) (by kernel_rfl) (fun _ _ _ h => h) (Or.inl ⟨by rfl, ?_⟩) (by assumption) ?_
      · (intro w1 hSw; (try dsimp only at hSw); go_simp)
      simp only [List.getElem_toArray, List.getElem_cons_zero, Act.put, List.setIfInBounds_toArray, List.set_cons_zero, List.set_cons_succ]
      refine wpAnyH_take (i := 1) (v := .pointer (some ⟨B, 0, none⟩)) rfl (by kernel_rfl) (by kernel_rfl) (by kernel_rfl) (fun _ _ _ h => h) (Or.inl ⟨by rfl, ?_⟩) (by assumption) ?_
      · (intro w1 hSw; (try dsimp only at hSw); go_simp)
      simp only [List.getElem_toArray, List.getElem_cons_succ, List.getElem_cons_zero, Act.put, List.setIfInBounds_toArray, List.set_cons_zero, List.set_cons_succ]
      refine wpAnyH_take (i := 2) (v := .pointer (some ⟨B, 0, none⟩)) rfl (by kernel_rfl) (by kernel_rfl) (by kernel_rfl) (fun _ _ _ h => h) (Or.inl ⟨by rfl, ?_⟩) (by assumption) ?_
      · (intro w1 hSw; (try dsimp only at hSw); go_simp)
      simp only [List.getElem_toArray, List.getElem_cons_succ, List.getElem_cons_zero, Act.put, List.setIfInBounds_toArray, List.set_cons_zero, List.set_cons_succ]
      refine wpAnyH_take (i := 3) (v := .slice (some ⟨g, 0, none⟩) (dgs E).length cap) rfl (by kernel_rfl) (by kernel_rfl) (by kernel_rfl) (fun _ _ _ h => h) (Or.inl ⟨by rfl, ?_⟩) (by assumption) ?_
      · (intro w1 hSw; (try dsimp only at hSw); (have hcc := cell_of hSw.2 0 (by simp); simp at hcc); go_simp)
      simp only [List.getElem_toArray, List.getElem_cons_succ, List.getElem_cons_zero, Act.put, List.setIfInBounds_toArray, List.set_cons_zero, List.set_cons_succ]
      refine wpAnyH_take (i := 4) (v := .pointer (some ⟨B, 0, none⟩)) rfl (by kernel_rfl) (by kernel_rfl) (by kernel_rfl) (fun _ _ _ h => h) (Or.inl ⟨by rfl, ?_⟩) (by assumption) ?_
      · (intro w1 hSw; (try dsimp only at hSw); go_simp)
      simp only [List.getElem_toArray, List.getElem_cons_succ, List.getElem_cons_zero, Act.put, List.setIfInBounds_toArray, List.set_cons_zero, List.set_cons_succ]
      refine wpAnyH_take (i := 5) (v := .slice ak key.length ck) rfl (by kernel_rfl) (by kernel_rfl) (by kernel_rfl) (fun _ _ _ h => h) (Or.inl ⟨by rfl, ?_⟩) (by assumption) ?_
      · (intro w1 hSw; (try dsimp only at hSw); go_simp)
      simp only [List.getElem_toArray, List.getElem_cons_succ, List.getElem_cons_zero, Act.put, List.setIfInBounds_toArray, List.set_cons_zero, List.set_cons_succ]
      refine wpAnyH_take (i := 6) (v := .int .i64 (k : Int)) rfl (by kernel_rfl) (by kernel_rfl) (by kernel_rfl) (fun _ _ _ h => h) (Or.inl ⟨by rfl, ?_⟩) (by assumption) ?_
      · (intro w1 hSw; (try dsimp only at hSw); go_simp)
      simp only [List.getElem_toArray, List.getElem_cons_succ, List.getElem_cons_zero, Act.put, List.setIfInBounds_toArray, List.set_cons_zero, List.set_cons_succ]
      refine wpAnyH_ready (rs := [7]) (by kernel_rfl) (by simp) ?_
      refine AllReadyH.cons (o := _) rfl (fun K hK => ?_) AllReadyH.nil
      go_simp
      refine (place_any _ _ h (dgs E) key hkl k (by omega) wr.drew base (HX.out.below (Below.refl wr.heap.size wr).drew) (HRk.out.below (Below.refl wr.heap.size wr).drew)).mono ?_
      rintro e w3 ⟨rfl, hb3⟩
      have HB3 : Hid (Below wr.heap.size wr w3) := (Below.refl wr.heap.size wr).drew.trans hb3
      clear hb3
      obtain ⟨p, Hp⟩ := hid_ex (pla key k % (dgs E).length)
      rw [← Hp.out]
      have hp : p < 8 * D.length := by rw [Hp.out, HCE.out]; exact HPL.out
      have hpE : p < (dgs E).length := by rw [HCE.out]; exact hp
      have HC3 : Hid (w3.heap[B]? = some (.cells #[.slice (some ⟨g, 0, none⟩) (dgs E).length cap, .int .i64 (h : Int)] 53)) := (HB3.out.block B HBL.out).trans HC.out
      have HO3 : Hid (w3.ownsRow base 4 1 (.slice (some ⟨g, 0, none⟩) (dgs E).length cap) (dgs E).length ((dgs E).map bcb)) := by
        obtain ⟨q1, q2⟩ := HO.out
        refine ⟨q1, ?_⟩
        rcases q2 with q2 | ⟨g2, cap2, cur, hv, hg, hw, r⟩
        · exact .inl q2
        · exact .inr ⟨g2, cap2, cur, hv, hg, (HB3.out.block g2 (Array.getElem?_eq_some_iff.1 hw).1).trans hw, r⟩
      have HB4 : Hid (Below base w w3) := HB.out.trans (HB3.out.mono HSZ.out)
      refine hK.out _ _ ?_ (fun hHeld => ?_)
      · exact ⟨HB4.out, HC3.out⟩
      clear hK K
      refine wpAnyH_take (i := 8) (v := .pointer (some ⟨g, p, none⟩)) rfl (by kernel_rfl) (by kernel_rfl) (by kernel_rfl) (fun _ _ _ h => h) (Or.inl ⟨by rfl, ?_⟩) (by assumption) ?_
      · (intro w1 hSw; (try dsimp only at hSw); go_simp)
      simp only [List.getElem_toArray, List.getElem_cons_succ, List.getElem_cons_zero, Act.put, List.setIfInBounds_toArray, List.set_cons_zero, List.set_cons_succ]
      obtain ⟨hcp, hfp⟩ := row_bool_at HO3.out p hpE
      refine wpAnyH_ready (rs := [9]) (by kernel_rfl) (by simp) ?_
      refine AllReadyH.cons (o := _) rfl (fun K hK => ?_) AllReadyH.nil
      go_simp
      have hst := (HO3.out.stored p (.bool true)).1
      have hgr := grown_set w3 g p (.bool true)
      have hB4 : Below base w3 (w3.setCell ⟨g, p, none⟩ (.bool true)) := (Below.refl _ _).setCell HGB.out.2 _
      have HC5 : Hid ((w3.setCell ⟨g, p, none⟩ (.bool true)).heap[B]? = some (.cells #[.slice (some ⟨g, 0, none⟩) (dgs E).length cap, .int .i64 (h : Int)] 53)) := (hgr.block B (Array.getElem?_eq_some_iff.1 HC3.out).1 (by simpa using HBG.out)).trans HC3.out
      have HB5 : Hid (Below base w (w3.setCell ⟨g, p, none⟩ (.bool true))) := HB4.out.trans hB4
      refine hK.out _ _ ?_ (fun hHeld => ?_)
      · exact ⟨HB5.out, HC5.out⟩
      clear hK K
      clear hHeld
      refine wpAnyH_done (by kernel_rfl) ?_ _
      refine NoPanic.normal ?_
      have HX5 : Hid (RF (w3.setCell ⟨g, p, none⟩ (.bool true)) base (.pointer (some ⟨B, 0, none⟩)) h (dgs (adF D (plc key (8 * D.length) (k + 1))))) := by
        have e1 : adF D (plc key (8 * D.length) (k + 1)) = sb E p := by rw [plc_succ, adF_snoc, ← HE.out, Hp.out, HCE.out]
        rw [e1, ← dgs_sb E p (by rw [HEL.out]; exact hp)]
        refine ⟨B, g, cap, rfl, hBB, by rw [List.length_set]; exact HC5.out, ?_, HBG.out, hh1, hh8, by rw [List.length_set, HCE.out]; exact hd8, by rw [List.length_set, HCE.out]; exact hd9⟩
        rw [List.length_set, List.map_set]; exact hst
      clear hst hgr hB4 HC5
      go_wp2_with fail
      go_roundw
      case rel => exact ⟨k + 1, by omega, by go_num, HX5, HB5⟩
      case measure => simp [intOf]; omega
    · have hkh : k = h := by omega
      clear hO hc
      go_wp2_with fail
      refine bodyPost_end (results_none rfl _ _ _) rfl ?_
      refine ⟨⟨_, rfl⟩, ?_, HB.out⟩
      have e9 : plc key (8 * D.length) h = plc key (8 * D.length) k := by rw [hkh]
      rw [e9, ← HE.out]; exact HX.out
end Go.Proofs.Ytgdjjpnejdedhaa
