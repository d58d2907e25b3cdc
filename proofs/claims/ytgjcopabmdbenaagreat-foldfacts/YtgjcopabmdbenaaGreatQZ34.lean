/- RQ3, joined. -/
import Derived.Test.YtgjcopabmdbenaaGreatQZ33
import Derived.BigRegion
import Derived.Deep.RegionLaw
/- The contract of the reference's Key (layer 15). -/
namespace Go.Proofs.YtgjcopabmdbenaaGreat
open Go.RowKit

theorem set3 {w : World} {b : Nat} {T : TypeId} {x0 x1 x2 : Value} (h : w.heap[b]? = some (.cells #[x0, x1, x2] T)) (v : Value) : (w.setCell ⟨b, 1, none⟩ v).heap[b]? = some (.cells #[x0, v, x2] T) ∧ (w.setCell ⟨b, 2, none⟩ v).heap[b]? = some (.cells #[x0, x1, v] T) :=
  ⟨by simpa using Go.heap_setCell_same w b 1 _ _ v h, by simpa using Go.heap_setCell_same w b 2 _ _ v h⟩
theorem kfroz {w : World} {b : Nat} {x0 x1 x2 : Value} {t : TypeId} (h : w.heap[b]? = some (.cells #[x0, x1, x2] t)) : w.frozen? ⟨b, 1, none⟩ = false ∧ w.frozen? ⟨b, 2, none⟩ = false :=
  ⟨by simp [World.frozen?, h], by simp [World.frozen?, h]⟩
set_option maxRecDepth 100000 in
set_option maxHeartbeats 4000000 in
theorem refKey_any (R : Rl) (hR : RightP R) (wm : Int) (hwm : isT wm = true) (v : Value) (X : Ks) (D : List ByteArray) (f : Int) (g : Nat) (hrd : rdF X = some (D, f, (g : Int))) (hbg : Beg R f g) (w : World) (hL : Lies R w.heap.size w) (hRd : Reads w v X) (hxl : X.length ≤ 1000) :
    Calls Tryz.prog 43 #[.agg #[.slice R.a R.len R.cap, .int .i64 R.kp], .int .i64 wm, v] w fun e w' => ∃ v', e = .returned (.tuple #[v', .bool (!goneB R wm f)]) ∧ Own w' w.heap.size v' (kb D (flq R wm f g) ((stq R wm f g : Nat) : Int)) ∧ Below w.heap.size w w' := by
  have HRD : Hid (rdF X = some (D, f, (g : Int))) := hrd
  have HR : Hid (RightP R) := hR
  have HBG : Hid (Beg R f g) := hbg
  have HL : Hid (Lies R w.heap.size w) := hL
  have HRX : Hid (Reads w v X) := hRd
  have HF0 : Hid (fE R f wm = 0) := fE_of hR hbg.t hwm
  have HGN : Hid (exA R f wm = goneB R wm f) := by unfold Hid exA goneB; rw [if_pos HF0.out]
  have HST : Hid (IsStep R f wm (stp R f wm)) := stp_is hR f wm
  have hstl : stp R f wm < R.len := HST.out.1
  have hgl : g < R.len := hbg.gl
  have h4 : R.len ≤ 4 := hR.2.1
  have hq : stq R wm f g = max (stp R f wm) g := rfl
  have HNX : Hid (rightBK D (flq R wm f g) ((stq R wm f g : Nat) : Int) = true) := by have := right_next hR hrd (by rw [Int.toNat_natCast]; exact hgl) wm; rw [Int.toNat_natCast] at this; exact this
  have hfb := flq_bd hR hgl hbg.t wm
  have HFL : Hid (flq R wm f g = f - f % R.sz (stq R wm f g)) := rfl
  have HFV : Hid (floorV f (R.sz (stq R wm f g)) = .tuple #[.int .i64 (f - f % R.sz (stq R wm f g)), .int .i64 0]) := floor_fit hR hrd (stq_lt hR hgl)
  have hql : stq R wm f g < R.len := stq_lt hR hgl
  rw [← HFL.out] at HFV
  obtain ⟨fl, Hfl⟩ := hid_ex (flq R wm f g)
  obtain ⟨q, Hq⟩ := hid_ex (stq R wm f g)
  obtain ⟨K, HK⟩ := hid_ex (stp R f wm)
  rw [← Hfl.out] at HFV HNX hfb ⊢
  rw [← Hq.out] at HFV HNX hql hq ⊢
  rw [← HK.out] at hq hstl HST
  obtain ⟨s, Hs⟩ := hid_ex (R.sz q)
  rw [← Hs.out] at HFV
  obtain ⟨gn, Hgn⟩ := hid_ex (goneB R wm f)
  rw [← Hgn.out] at HGN ⊢
  clear hrd hR hbg hL hRd HFL Hfl Hq HK Hgn
  obtain ⟨av, cv, rfl, _⟩ := HRX.out.form
  obtain ⟨w1, HW1⟩ := hid_ex (w.alloc (.cells #[.slice R.a R.len R.cap, .int .i64 R.kp] 24))
  have HB1 : Hid (Below w.heap.size w w1) := by rw [HW1.out]; exact new_below _ _
  have HX1 : Hid (RBox R w.heap.size w1) := by rw [HW1.out]; exact RBox.new R w _
  have hs1 : w.heap.size < w1.heap.size := HX1.out.1
  go_enter Tryz.func43, Tryz.ntmps43
  go_wp2_with fail
  rw [← HW1.out]
  clear HW1
  refine (refRead_any _ X hxl _ (HRX.out.below HB1.out)).mono ?_
  rintro e w3 (⟨D', f', g', vd, hrd, rfl, hkl3, hb3⟩ | ⟨hrd, rfl, hb3⟩)
  · rw [HRD.out] at hrd
    simp only [Option.some.injEq, Prod.mk.injEq] at hrd
    obtain ⟨rfl, rfl, rfl⟩ := hrd
    have HB3 : Hid (Below w1.heap.size w1 w3) := hb3
    have hs3 : w1.heap.size ≤ w3.heap.size := hb3.size
    obtain ⟨va, vc, hvd, _⟩ := hkl3.r.form
    simp only at hvd
    subst hvd
    have HSR3 : Hid (SReads w3 (.slice va D.length vc) D) := hkl3.r
    obtain ⟨dn, Hdn⟩ := hid_ex D.length
    rw [← Hdn.out] at HSR3 ⊢
    obtain ⟨w4, HW4⟩ := hid_ex (w3.alloc (.cells #[.slice va dn vc, .int .i64 f, .int .i64 (g : Int)] 55))
    have hb4 : Below w3.heap.size w3 w4 := by rw [HW4.out]; exact new_below _ _
    have HY4 : Hid (w4.heap[w3.heap.size]? = some (.cells #[.slice va dn vc, .int .i64 f, .int .i64 (g : Int)] 55)) := by rw [HW4.out]; exact heap_alloc_new _ _
    have HB4 : Hid (Below w3.heap.size w3 w4) := hb4
    have HB4' : Hid (Below w1.heap.size w1 w4) := HB3.out.trans (hb4.mono HB3.out.size)
    obtain ⟨hx3, r0, r1⟩ := HX1.out.below HB3.out
    have HL4 : Hid (Lies R w4.heap.size w4) := HL.out.at (HB1.out.trans (HB4'.out.mono HB1.out.size))
    clear hkl3 hb3 hb4 Hdn
    go_wp2_with fail
    rw [← HW4.out]
    clear HW4
    refine (refExpired_any R f wm _ HL4.out).mono ?_
    rintro e w5 ⟨rfl, hb5⟩
    rw [HGN.out, HF0.out]
    have HB5 : Hid (Below w3.heap.size w3 w5) := HB4.out.trans (hb5.mono HB4.out.size)
    have HY5 : Hid (w5.heap[w3.heap.size]? = some (.cells #[.slice va dn vc, .int .i64 f, .int .i64 (g : Int)] 55)) := (hb5.block _ (Array.getElem?_eq_some_iff.1 HY4.out).1).trans HY4.out
    have HB5' : Hid (Below w1.heap.size w1 w5) := HB3.out.trans (HB5.out.mono HB3.out.size)
    clear hb5 r0 r1 HY4 HL4 HB4 HB4'
    obtain ⟨r0, r1⟩ := (HX1.out.below HB5'.out).at
    obtain ⟨k0, k1, k2⟩ := kcells HY5.out
    have HL5 : Hid (Lies R w5.heap.size w5) := HL.out.at (HB1.out.trans (HB5'.out.mono HB1.out.size))
    go_wp2_with fail
    refine (refStep_ok R f wm HF0.out K HST.out _ HL5.out).mono ?_
    rintro e w6 ⟨rfl, hb6⟩
    have HB6 : Hid (Below w3.heap.size w3 w6) := HB5.out.trans (hb6.mono HB5.out.size)
    have HY6 : Hid (w6.heap[w3.heap.size]? = some (.cells #[.slice va dn vc, .int .i64 f, .int .i64 (g : Int)] 55)) := (hb6.block _ (Array.getElem?_eq_some_iff.1 HY5.out).1).trans HY5.out
    clear hb6 r0 r1 k0 k1 k2 HY5 HL5 HB5 HB5'
    obtain ⟨k0, k1, k2⟩ := kcells HY6.out
    obtain ⟨f1, f2⟩ := kfroz HY6.out
    have HTL : Hid (∀ w7 : World, Below w3.heap.size w3 w7 → w7.heap[w3.heap.size]? = some (.cells #[.slice va dn vc, .int .i64 f, .int .i64 (q : Int)] 55) → RBox R w.heap.size w7 ∧ Lies R w7.heap.size w7 ∧ Below w.heap.size w w7 ∧ SReads w7 (.slice va dn vc) D) := fun w7 h1 _ => by
      have h2 : Below w1.heap.size w1 w7 := HB3.out.trans (h1.mono HB3.out.size)
      have h3 : Below w.heap.size w w7 := HB1.out.trans (h2.mono HB1.out.size)
      exact ⟨HX1.out.below h2, HL.out.at h3, h3, HSR3.out.below h1⟩
    by_cases hgt : (g : Int) < (K : Int)
    · have HY7 : Hid ((w6.setCell ⟨w3.heap.size, 2, none⟩ (.int .i64 (K : Int))).heap[w3.heap.size]? = some (.cells #[.slice va dn vc, .int .i64 f, .int .i64 (q : Int)] 55)) := by
        have h9 := (set3 HY6.out (.int .i64 (K : Int))).2
        rw [show q = K by omega]
        exact h9
      have HB7 : Hid (Below w3.heap.size w3 (w6.setCell ⟨w3.heap.size, 2, none⟩ (.int .i64 (K : Int)))) := HB6.out.setCell (Nat.le_refl _) _
      clear HY6 HB6
      go_wp2_with fail
      obtain ⟨w7, HW7⟩ := hid_ex (w6.setCell ⟨w3.heap.size, 2, none⟩ (.int .i64 (K : Int)))
      rw [← HW7.out] at HY7 HB7 ⊢
      clear k0 k1 k2 f1 f2 HW7 hgt
      obtain ⟨hX7, hL7, hB7, hS7⟩ := HTL.out w7 HB7.out HY7.out
      obtain ⟨r0, r1⟩ := hX7.at
      obtain ⟨k0, k1, k2⟩ := kcells HY7.out
      obtain ⟨f1, f2⟩ := kfroz HY7.out
      obtain ⟨rb, ro, ha, hrb, hsz0⟩ := HL.out.sz hql
      rw [ha] at r0
      rw [← Hs.out] at hsz0
      have hsz : w7.cell? ⟨rb, ro + q * 2, none⟩ = some (.int .i64 s) := (hB7.cell (p := ⟨rb, ro + q * 2, none⟩) hrb).trans hsz0
      have HS7 : Hid (SReads w7 (.slice va dn vc) D) := hS7
      have HBw7 : Hid (Below w.heap.size w w7) := hB7
      have hn1 : w3.heap.size ≠ w.heap.size := by omega
      have hn2 : w3.heap.size ≠ rb := by omega
      have hqi : (q : Int) < (R.len : Int) := by omega
      have HS8 : Hid ((w7.setCell ⟨w3.heap.size, 1, none⟩ (.int .i64 fl)).cell? ⟨w.heap.size, 0, none⟩ = some (.slice (some ⟨rb, ro, none⟩) R.len R.cap) ∧ (w7.setCell ⟨w3.heap.size, 1, none⟩ (.int .i64 fl)).cell? ⟨w3.heap.size, 2, none⟩ = some (.int .i64 (q : Int)) ∧ (w7.setCell ⟨w3.heap.size, 1, none⟩ (.int .i64 fl)).cell? ⟨rb, ro + q * 2, none⟩ = some (.int .i64 s)) :=
        ⟨(World.cell?_setCell_far w7 ⟨w3.heap.size, 1, none⟩ ⟨w.heap.size, 0, none⟩ _ hn1).trans r0, (kcells (set3 HY7.out (.int .i64 fl)).1).2.2, (World.cell?_setCell_far w7 ⟨w3.heap.size, 1, none⟩ ⟨rb, ro + q * 2, none⟩ _ hn2).trans hsz⟩
      have hqn : ¬ R.len ≤ q := by omega
      clear hX7 hL7 hB7 hS7 ha hrb hsz0 k0 r1 f2 hq
      refine wp_region_noPanic ?_
      refine wp_region_held_drew (S := (fun w' => w'.cell? ⟨w.heap.size, 0, none⟩ = some (.slice (some ⟨rb, ro, none⟩) R.len R.cap) ∧ w'.cell? ⟨w3.heap.size, 2, none⟩ = some (.int .i64 (q : Int)) ∧ w'.cell? ⟨rb, ro + q * 2, none⟩ = some (.int .i64 s))) (by kernel_rfl) ?_ (fun hHeld => ?_)
      · exact ⟨r0, k2, hsz⟩
      refine wpAnyH_take (i := 0) (v := .pointer (some ⟨w3.heap.size, 1, none⟩)) rfl (by kernel_rfl) (by kernel_rfl) (by kernel_rfl) (fun _ _ _ h => h) (Or.inl ⟨by rfl, ?_⟩) (by assumption) ?_
      · (intro w1 hSw; (try dsimp only at hSw); go_simp)
      simp only [List.getElem_toArray, List.getElem_cons_zero, Act.put, List.setIfInBounds_toArray, List.set_cons_zero, List.set_cons_succ]
      refine wpAnyH_take (i := 2) (v := .pointer (some ⟨w.heap.size, 0, none⟩)) rfl (by kernel_rfl) (by kernel_rfl) (by kernel_rfl) (fun _ _ _ h => h) (Or.inl ⟨by rfl, ?_⟩) (by assumption) ?_
      · (intro w1 hSw; (try dsimp only at hSw); go_simp)
      simp only [List.getElem_toArray, List.getElem_cons_succ, List.getElem_cons_zero, Act.put, List.setIfInBounds_toArray, List.set_cons_zero, List.set_cons_succ]
      refine wpAnyH_take (i := 3) (v := .slice (some ⟨rb, ro, none⟩) R.len R.cap) rfl (by kernel_rfl) (by kernel_rfl) (by kernel_rfl) (fun _ _ _ h => h) (Or.inl ⟨by rfl, ?_⟩) (by assumption) ?_
      · (intro w1 hSw; (try dsimp only at hSw); obtain ⟨h1, h2, h3⟩ := hSw; go_simp)
      simp only [List.getElem_toArray, List.getElem_cons_succ, List.getElem_cons_zero, Act.put, List.setIfInBounds_toArray, List.set_cons_zero, List.set_cons_succ]
      refine wpAnyH_take (i := 4) (v := .pointer (some ⟨w3.heap.size, 2, none⟩)) rfl (by kernel_rfl) (by kernel_rfl) (by kernel_rfl) (fun _ _ _ h => h) (Or.inl ⟨by rfl, ?_⟩) (by assumption) ?_
      · (intro w1 hSw; (try dsimp only at hSw); go_simp)
      simp only [List.getElem_toArray, List.getElem_cons_succ, List.getElem_cons_zero, Act.put, List.setIfInBounds_toArray, List.set_cons_zero, List.set_cons_succ]
      refine wpAnyH_take (i := 5) (v := .int .i64 (q : Int)) rfl (by kernel_rfl) (by kernel_rfl) (by kernel_rfl) (fun _ _ _ h => h) (Or.inl ⟨by rfl, ?_⟩) (by assumption) ?_
      · (intro w1 hSw; (try dsimp only at hSw); obtain ⟨h1, h2, h3⟩ := hSw; go_simp)
      simp only [List.getElem_toArray, List.getElem_cons_succ, List.getElem_cons_zero, Act.put, List.setIfInBounds_toArray, List.set_cons_zero, List.set_cons_succ]
      refine wpAnyH_take (i := 6) (v := .pointer (some ⟨rb, ro + q * 2, none⟩)) rfl (by kernel_rfl) (by kernel_rfl) (by kernel_rfl) (fun _ _ _ h => h) (Or.inl ⟨by rfl, ?_⟩) (by assumption) ?_
      · (intro w1 hSw; (try dsimp only at hSw); go_simp)
      simp only [List.getElem_toArray, List.getElem_cons_succ, List.getElem_cons_zero, Act.put, List.setIfInBounds_toArray, List.set_cons_zero, List.set_cons_succ]
      refine wpAnyH_take (i := 7) (v := .pointer (some ⟨rb, ro + q * 2, none⟩)) rfl (by kernel_rfl) (by kernel_rfl) (by kernel_rfl) (fun _ _ _ h => h) (Or.inl ⟨by rfl, ?_⟩) (by assumption) ?_
      · (intro w1 hSw; (try dsimp only at hSw); go_simp)
      simp only [List.getElem_toArray, List.getElem_cons_succ, List.getElem_cons_zero, Act.put, List.setIfInBounds_toArray, List.set_cons_zero, List.set_cons_succ]
      refine wpAnyH_take (i := 8) (v := .int .i64 s) rfl (by kernel_rfl) (by kernel_rfl) (by kernel_rfl) (fun _ _ _ h => h) (Or.inl ⟨by rfl, ?_⟩) (by assumption) ?_
      · (intro w1 hSw; (try dsimp only at hSw); obtain ⟨h1, h2, h3⟩ := hSw; go_simp)
      simp only [List.getElem_toArray, List.getElem_cons_succ, List.getElem_cons_zero, Act.put, List.setIfInBounds_toArray, List.set_cons_zero, List.set_cons_succ]
      refine wpAnyH_ready (rs := [1]) (by kernel_rfl) (by simp) ?_
      refine AllReadyH.cons (o := _) rfl (fun K hK => ?_) AllReadyH.nil
      go_simp
      refine hK.out _ _ ?_ (fun hHeld => ?_)
      · exact ⟨r0, k2, hsz⟩
      clear hK K
      refine wpAnyH_ready (rs := [9]) (by kernel_rfl) (by simp) ?_
      refine AllReadyH.cons (o := _) rfl (fun K hK => ?_) AllReadyH.nil
      go_simp
      refine (refFloor_any f s _).mono ?_
      rintro e w' ⟨rfl, rfl⟩
      rw [HFV.out]
      refine hK.out _ _ ?_ (fun hHeld => ?_)
      · exact ⟨r0, k2, hsz⟩
      clear hK K
      refine wpAnyH_take (i := 10) (v := .tuple #[.int .i64 fl, .int .i64 0]) rfl (by kernel_rfl) (by kernel_rfl) (by kernel_rfl) (fun _ _ _ h => h) (Or.inl ⟨by rfl, ?_⟩) (by assumption) ?_
      · (intro w1 hSw; (try dsimp only at hSw); go_simp)
      simp only [List.getElem_toArray, List.getElem_cons_succ, List.getElem_cons_zero, Act.put, List.setIfInBounds_toArray, List.set_cons_zero, List.set_cons_succ]
      refine wpAnyH_take (i := 11) (v := .int .i64 fl) rfl (by kernel_rfl) (by kernel_rfl) (by kernel_rfl) (fun _ _ _ h => h) (Or.inl ⟨by rfl, ?_⟩) (by assumption) ?_
      · (intro w1 hSw; (try dsimp only at hSw); go_simp)
      simp only [List.getElem_toArray, List.getElem_cons_succ, List.getElem_cons_zero, Act.put, List.setIfInBounds_toArray, List.set_cons_zero, List.set_cons_succ]
      refine wpAnyH_take (i := 12) (v := .int .i64 0) rfl (by kernel_rfl) (by kernel_rfl) (by kernel_rfl) (fun _ _ _ h => h) (Or.inl ⟨by rfl, ?_⟩) (by assumption) ?_
      · (intro w1 hSw; (try dsimp only at hSw); go_simp)
      simp only [List.getElem_toArray, List.getElem_cons_succ, List.getElem_cons_zero, Act.put, List.setIfInBounds_toArray, List.set_cons_zero, List.set_cons_succ]
      refine wpAnyH_take (i := 13) (v := .pointer (some ⟨w3.heap.size, 1, none⟩)) rfl (by kernel_rfl) (by kernel_rfl) (by kernel_rfl) (fun _ _ _ h => h) (Or.inl ⟨by rfl, ?_⟩) (by assumption) ?_
      · (intro w1 hSw; (try dsimp only at hSw); go_simp)
      simp only [List.getElem_toArray, List.getElem_cons_succ, List.getElem_cons_zero, Act.put, List.setIfInBounds_toArray, List.set_cons_zero, List.set_cons_succ]
      refine wpAnyH_ready (rs := [14]) (by kernel_rfl) (by simp) ?_
      refine AllReadyH.cons (o := _) rfl (fun K hK => ?_) AllReadyH.nil
      go_simp
      refine hK.out _ _ ?_ (fun hHeld => ?_)
      · exact HS8.out
      clear hK K
      clear hHeld
      refine wpAnyH_done (by kernel_rfl) ?_ _
      refine NoPanic.normal ?_
      obtain ⟨w8, HW8⟩ := hid_ex ((w7.setCell ⟨w3.heap.size, 1, none⟩ (.int .i64 fl)).drew)
      have HY8 : Hid (w8.heap[w3.heap.size]? = some (.cells #[.slice va dn vc, .int .i64 fl, .int .i64 (q : Int)] 55)) := by rw [HW8.out]; exact (set3 HY7.out (.int .i64 fl)).1
      have HB8 : Hid (Below w3.heap.size w3 w8) := by rw [HW8.out]; exact (HB7.out.setCell (Nat.le_refl _) _).drew
      have HBw8 : Hid (Below w.heap.size w w8) := by
        have h2 : Below w1.heap.size w1 w8 := HB3.out.trans (HB8.out.mono HB3.out.size)
        exact HB1.out.trans (h2.mono HB1.out.size)
      have HS8' : Hid (SReads w8 (.slice va dn vc) D) := HSR3.out.below HB8.out
      obtain ⟨j0, j1, j2⟩ := kcells HY8.out
      rw [← HW8.out]
      clear HW8 r0 k1 k2 f1 hsz HS8 HY7 HB7 HS7 HBw7 HY8 HB8
      go_wp2_with fail
      refine (refWrite_yes ⟨.slice va dn vc, D, fl, (q : Int)⟩ HNX.out _ ⟨HS8'.out, by simp only; omega, by simp only; omega, by simp only; omega, by simp only; omega⟩).mono ?_
      rintro e w9 ⟨v9, rfl, ho9, hb9⟩
      have HO9 : Hid (Own w9 w.heap.size v9 (kb D fl (q : Int))) := ho9.mono HBw8.out.size
      have HB9 : Hid (Below w.heap.size w w9) := HBw8.out.trans (hb9.mono HBw8.out.size)
      clear ho9 hb9 j0 j1 j2
      go_wp2_with fail
      go_ret2
      exact ⟨v9, rfl, HO9.out, HB9.out⟩
    · have HY7 : Hid (w6.heap[w3.heap.size]? = some (.cells #[.slice va dn vc, .int .i64 f, .int .i64 (q : Int)] 55)) := by
        rw [show q = g by omega]
        exact HY6.out
      have HB7 : Hid (Below w3.heap.size w3 w6) := HB6.out
      clear HY6 HB6
      go_wp2_with fail
      obtain ⟨w7, HW7⟩ := hid_ex w6
      rw [← HW7.out] at HY7 HB7 ⊢
      clear k0 k1 k2 f1 f2 HW7 hgt
      obtain ⟨hX7, hL7, hB7, hS7⟩ := HTL.out w7 HB7.out HY7.out
      obtain ⟨r0, r1⟩ := hX7.at
      obtain ⟨k0, k1, k2⟩ := kcells HY7.out
      obtain ⟨f1, f2⟩ := kfroz HY7.out
      obtain ⟨rb, ro, ha, hrb, hsz0⟩ := HL.out.sz hql
      rw [ha] at r0
      rw [← Hs.out] at hsz0
      have hsz : w7.cell? ⟨rb, ro + q * 2, none⟩ = some (.int .i64 s) := (hB7.cell (p := ⟨rb, ro + q * 2, none⟩) hrb).trans hsz0
      have HS7 : Hid (SReads w7 (.slice va dn vc) D) := hS7
      have HBw7 : Hid (Below w.heap.size w w7) := hB7
      have hn1 : w3.heap.size ≠ w.heap.size := by omega
      have hn2 : w3.heap.size ≠ rb := by omega
      have hqi : (q : Int) < (R.len : Int) := by omega
      have HS8 : Hid ((w7.setCell ⟨w3.heap.size, 1, none⟩ (.int .i64 fl)).cell? ⟨w.heap.size, 0, none⟩ = some (.slice (some ⟨rb, ro, none⟩) R.len R.cap) ∧ (w7.setCell ⟨w3.heap.size, 1, none⟩ (.int .i64 fl)).cell? ⟨w3.heap.size, 2, none⟩ = some (.int .i64 (q : Int)) ∧ (w7.setCell ⟨w3.heap.size, 1, none⟩ (.int .i64 fl)).cell? ⟨rb, ro + q * 2, none⟩ = some (.int .i64 s)) :=
        ⟨(World.cell?_setCell_far w7 ⟨w3.heap.size, 1, none⟩ ⟨w.heap.size, 0, none⟩ _ hn1).trans r0, (kcells (set3 HY7.out (.int .i64 fl)).1).2.2, (World.cell?_setCell_far w7 ⟨w3.heap.size, 1, none⟩ ⟨rb, ro + q * 2, none⟩ _ hn2).trans hsz⟩
      have hqn : ¬ R.len ≤ q := by omega
      clear hX7 hL7 hB7 hS7 ha hrb hsz0 k0 r1 f2 hq
      refine wp_region_noPanic ?_
      refine wp_region_held_drew (S := (fun w' => w'.cell? ⟨w.heap.size, 0, none⟩ = some (.slice (some ⟨rb, ro, none⟩) R.len R.cap) ∧ w'.cell? ⟨w3.heap.size, 2, none⟩ = some (.int .i64 (q : Int)) ∧ w'.cell? ⟨rb, ro + q * 2, none⟩ = some (.int .i64 s))) (by kernel_rfl) ?_ (fun hHeld => ?_)
      · exact ⟨r0, k2, hsz⟩
      refine wpAnyH_take (i := 0) (v := .pointer (some ⟨w3.heap.size, 1, none⟩)) rfl (by kernel_rfl) (by kernel_rfl) (by kernel_rfl) (fun _ _ _ h => h) (Or.inl ⟨by rfl, ?_⟩) (by assumption) ?_
      · (intro w1 hSw; (try dsimp only at hSw); go_simp)
      simp only [List.getElem_toArray, List.getElem_cons_zero, Act.put, List.setIfInBounds_toArray, List.set_cons_zero, List.set_cons_succ]
      refine wpAnyH_take (i := 2) (v := .pointer (some ⟨w.heap.size, 0, none⟩)) rfl (by kernel_rfl) (by kernel_rfl) (by kernel_rfl) (fun _ _ _ h => h) (Or.inl ⟨by rfl, ?_⟩) (by assumption) ?_
      · (intro w1 hSw; (try dsimp only at hSw); go_simp)
      simp only [List.getElem_toArray, List.getElem_cons_succ, List.getElem_cons_zero, Act.put, List.setIfInBounds_toArray, List.set_cons_zero, List.set_cons_succ]
      refine wpAnyH_take (i := 3) (v := .slice (some ⟨rb, ro, none⟩) R.len R.cap) rfl (by kernel_rfl) (by kernel_rfl) (by kernel_rfl) (fun _ _ _ h => h) (Or.inl ⟨by rfl, ?_⟩) (by assumption) ?_
      · (intro w1 hSw; (try dsimp only at hSw); obtain ⟨h1, h2, h3⟩ := hSw; go_simp)
      simp only [List.getElem_toArray, List.getElem_cons_succ, List.getElem_cons_zero, Act.put, List.setIfInBounds_toArray, List.set_cons_zero, List.set_cons_succ]
      refine wpAnyH_take (i := 4) (v := .pointer (some ⟨w3.heap.size, 2, none⟩)) rfl (by kernel_rfl) (by kernel_rfl) (by kernel_rfl) (fun _ _ _ h => h) (Or.inl ⟨by rfl, ?_⟩) (by assumption) ?_
      · (intro w1 hSw; (try dsimp only at hSw); go_simp)
      simp only [List.getElem_toArray, List.getElem_cons_succ, List.getElem_cons_zero, Act.put, List.setIfInBounds_toArray, List.set_cons_zero, List.set_cons_succ]
      refine wpAnyH_take (i := 5) (v := .int .i64 (q : Int)) rfl (by kernel_rfl) (by kernel_rfl) (by kernel_rfl) (fun _ _ _ h => h) (Or.inl ⟨by rfl, ?_⟩) (by assumption) ?_
      · (intro w1 hSw; (try dsimp only at hSw); obtain ⟨h1, h2, h3⟩ := hSw; go_simp)
      simp only [List.getElem_toArray, List.getElem_cons_succ, List.getElem_cons_zero, Act.put, List.setIfInBounds_toArray, List.set_cons_zero, List.set_cons_succ]
      refine wpAnyH_take (i := 6) (v := .pointer (some ⟨rb, ro + q * 2, none⟩)) rfl (by kernel_rfl) (by kernel_rfl) (by kernel_rfl) (fun _ _ _ h => h) (Or.inl ⟨by rfl, ?_⟩) (by assumption) ?_
      · (intro w1 hSw; (try dsimp only at hSw); go_simp)
      simp only [List.getElem_toArray, List.getElem_cons_succ, List.getElem_cons_zero, Act.put, List.setIfInBounds_toArray, List.set_cons_zero, List.set_cons_succ]
      refine wpAnyH_take (i := 7) (v := .pointer (some ⟨rb, ro + q * 2, none⟩)) rfl (by kernel_rfl) (by kernel_rfl) (by kernel_rfl) (fun _ _ _ h => h) (Or.inl ⟨by rfl, ?_⟩) (by assumption) ?_
      · (intro w1 hSw; (try dsimp only at hSw); go_simp)
      simp only [List.getElem_toArray, List.getElem_cons_succ, List.getElem_cons_zero, Act.put, List.setIfInBounds_toArray, List.set_cons_zero, List.set_cons_succ]
      refine wpAnyH_take (i := 8) (v := .int .i64 s) rfl (by kernel_rfl) (by kernel_rfl) (by kernel_rfl) (fun _ _ _ h => h) (Or.inl ⟨by rfl, ?_⟩) (by assumption) ?_
      · (intro w1 hSw; (try dsimp only at hSw); obtain ⟨h1, h2, h3⟩ := hSw; go_simp)
      simp only [List.getElem_toArray, List.getElem_cons_succ, List.getElem_cons_zero, Act.put, List.setIfInBounds_toArray, List.set_cons_zero, List.set_cons_succ]
      refine wpAnyH_ready (rs := [1]) (by kernel_rfl) (by simp) ?_
      refine AllReadyH.cons (o := _) rfl (fun K hK => ?_) AllReadyH.nil
      go_simp
      refine hK.out _ _ ?_ (fun hHeld => ?_)
      · exact ⟨r0, k2, hsz⟩
      clear hK K
      refine wpAnyH_ready (rs := [9]) (by kernel_rfl) (by simp) ?_
      refine AllReadyH.cons (o := _) rfl (fun K hK => ?_) AllReadyH.nil
      go_simp
      refine (refFloor_any f s _).mono ?_
      rintro e w' ⟨rfl, rfl⟩
      rw [HFV.out]
      refine hK.out _ _ ?_ (fun hHeld => ?_)
      · exact ⟨r0, k2, hsz⟩
      clear hK K
      refine wpAnyH_take (i := 10) (v := .tuple #[.int .i64 fl, .int .i64 0]) rfl (by kernel_rfl) (by kernel_rfl) (by kernel_rfl) (fun _ _ _ h => h) (Or.inl ⟨by rfl, ?_⟩) (by assumption) ?_
      · (intro w1 hSw; (try dsimp only at hSw); go_simp)
      simp only [List.getElem_toArray, List.getElem_cons_succ, List.getElem_cons_zero, Act.put, List.setIfInBounds_toArray, List.set_cons_zero, List.set_cons_succ]
      refine wpAnyH_take (i := 11) (v := .int .i64 fl) rfl (by kernel_rfl) (by kernel_rfl) (by kernel_rfl) (fun _ _ _ h => h) (Or.inl ⟨by rfl, ?_⟩) (by assumption) ?_
      · (intro w1 hSw; (try dsimp only at hSw); go_simp)
      simp only [List.getElem_toArray, List.getElem_cons_succ, List.getElem_cons_zero, Act.put, List.setIfInBounds_toArray, List.set_cons_zero, List.set_cons_succ]
      refine wpAnyH_take (i := 12) (v := .int .i64 0) rfl (by kernel_rfl) (by kernel_rfl) (by kernel_rfl) (fun _ _ _ h => h) (Or.inl ⟨by rfl, ?_⟩) (by assumption) ?_
      · (intro w1 hSw; (try dsimp only at hSw); go_simp)
      simp only [List.getElem_toArray, List.getElem_cons_succ, List.getElem_cons_zero, Act.put, List.setIfInBounds_toArray, List.set_cons_zero, List.set_cons_succ]
      refine wpAnyH_take (i := 13) (v := .pointer (some ⟨w3.heap.size, 1, none⟩)) rfl (by kernel_rfl) (by kernel_rfl) (by kernel_rfl) (fun _ _ _ h => h) (Or.inl ⟨by rfl, ?_⟩) (by assumption) ?_
      · (intro w1 hSw; (try dsimp only at hSw); go_simp)
      simp only [List.getElem_toArray, List.getElem_cons_succ, List.getElem_cons_zero, Act.put, List.setIfInBounds_toArray, List.set_cons_zero, List.set_cons_succ]
      refine wpAnyH_ready (rs := [14]) (by kernel_rfl) (by simp) ?_
      refine AllReadyH.cons (o := _) rfl (fun K hK => ?_) AllReadyH.nil
      go_simp
      refine hK.out _ _ ?_ (fun hHeld => ?_)
      · exact HS8.out
      clear hK K
      clear hHeld
      refine wpAnyH_done (by kernel_rfl) ?_ _
      refine NoPanic.normal ?_
      obtain ⟨w8, HW8⟩ := hid_ex ((w7.setCell ⟨w3.heap.size, 1, none⟩ (.int .i64 fl)).drew)
      have HY8 : Hid (w8.heap[w3.heap.size]? = some (.cells #[.slice va dn vc, .int .i64 fl, .int .i64 (q : Int)] 55)) := by rw [HW8.out]; exact (set3 HY7.out (.int .i64 fl)).1
      have HB8 : Hid (Below w3.heap.size w3 w8) := by rw [HW8.out]; exact (HB7.out.setCell (Nat.le_refl _) _).drew
      have HBw8 : Hid (Below w.heap.size w w8) := by
        have h2 : Below w1.heap.size w1 w8 := HB3.out.trans (HB8.out.mono HB3.out.size)
        exact HB1.out.trans (h2.mono HB1.out.size)
      have HS8' : Hid (SReads w8 (.slice va dn vc) D) := HSR3.out.below HB8.out
      obtain ⟨j0, j1, j2⟩ := kcells HY8.out
      rw [← HW8.out]
      clear HW8 r0 k1 k2 f1 hsz HS8 HY7 HB7 HS7 HBw7 HY8 HB8
      go_wp2_with fail
      refine (refWrite_yes ⟨.slice va dn vc, D, fl, (q : Int)⟩ HNX.out _ ⟨HS8'.out, by simp only; omega, by simp only; omega, by simp only; omega, by simp only; omega⟩).mono ?_
      rintro e w9 ⟨v9, rfl, ho9, hb9⟩
      have HO9 : Hid (Own w9 w.heap.size v9 (kb D fl (q : Int))) := ho9.mono HBw8.out.size
      have HB9 : Hid (Below w.heap.size w w9) := HBw8.out.trans (hb9.mono HBw8.out.size)
      clear ho9 hb9 j0 j1 j2
      go_wp2_with fail
      go_ret2
      exact ⟨v9, rfl, HO9.out, HB9.out⟩
  · rw [HRD.out] at hrd
    cases hrd
end Go.Proofs.YtgjcopabmdbenaaGreat
