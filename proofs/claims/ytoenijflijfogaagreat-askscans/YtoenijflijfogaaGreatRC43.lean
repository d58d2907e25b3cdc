/- RQ3 MA3 RQ4 RE1 RE2, joined. -/
import Derived.Test.YtoenijflijfogaaGreatRC22
import Derived.Test.YtoenijflijfogaaGreatRC27
import Derived.Test.YtoenijflijfogaaGreatRC37
import Derived.Test.YtoenijflijfogaaGreatRC38
import Derived.Test.YtoenijflijfogaaGreatRC42
import Derived.BigRegion
import Derived.Deep.RegionLaw
/- The contract of the reference's Key (layer 15). -/
namespace Go.Proofs.YtoenijflijfogaaGreat
open Go.RowKit

theorem set3 {w : World} {b : Nat} {T : TypeId} {x0 x1 x2 : Value} (h : w.heap[b]? = some (.cells #[x0, x1, x2] T)) (v : Value) : (w.setCell ⟨b, 1, none⟩ v).heap[b]? = some (.cells #[x0, v, x2] T) ∧ (w.setCell ⟨b, 2, none⟩ v).heap[b]? = some (.cells #[x0, x1, v] T) :=
  ⟨by simpa using Go.heap_setCell_same w b 1 _ _ v h, by simpa using Go.heap_setCell_same w b 2 _ _ v h⟩
theorem kfroz {w : World} {b : Nat} {x0 x1 x2 : Value} {t : TypeId} (h : w.heap[b]? = some (.cells #[x0, x1, x2] t)) : w.frozen? ⟨b, 1, none⟩ = false ∧ w.frozen? ⟨b, 2, none⟩ = false :=
  ⟨by simp [World.frozen?, h], by simp [World.frozen?, h]⟩
set_option maxRecDepth 100000 in
set_option maxHeartbeats 4000000 in
theorem refKey_any (R : Rl) (hR : RightP R) (wm : Int) (hwm : isT wm = true) (v : Value) (X : Ks) (D : List ByteArray) (f : Int) (g : Nat) (hrd : rdF X = some (D, f, (g : Int))) (hbg : Beg R f g) (w : World) (hL : Lies R w.heap.size w) (hRd : Reads w v X) (hxl : X.length ≤ 1000) :
    Calls Tryz.prog 69 #[.agg #[.slice R.a R.len R.cap, .int .i64 R.kp], .int .i64 wm, v] w fun e w' => ∃ v', e = .returned (.tuple #[v', .bool (!goneB R wm f)]) ∧ Own w' w.heap.size v' (kb D (flq R wm f g) ((stq R wm f g : Nat) : Int)) ∧ Below w.heap.size w w' := by
  have HRD : Hid (rdF X = some (D, f, (g : Int))) := hrd
  have HR : Hid (RightP R) := hR
  have HBG : Hid (Beg R f g) := hbg
  have HL : Hid (Lies R w.heap.size w) := hL
  have HRX : Hid (Reads w v X) := hRd
  have HF0 : Hid (fE R f wm = 0) := fE_of hR hbg.t hwm
  have HGN : Hid (exA R f wm = goneB R wm f) := by unfold Hid exA goneB; rw [if_pos HF0.out]
  have HST : Hid (IsStep R f wm (stp R f wm)) := stp_is hR f wm
  have hstl : stp R f wm < R.len := HST.out.1
  have hgl : g < R.len := hbg.gl
  have h4 : R.len ≤ 4 := hR.2.1
  have hq : stq R wm f g = max (stp R f wm) g := rfl
  have HNX : Hid (rightBK D (flq R wm f g) ((stq R wm f g : Nat) : Int) = true) := by have := right_next hR hrd (by rw [Int.toNat_natCast]; exact hgl) wm; rw [Int.toNat_natCast] at this; exact this
  have hfb := flq_bd hR hgl hbg.t wm
  have HFL : Hid (flq R wm f g = f - f % R.sz (stq R wm f g)) := rfl
  have HFV : Hid (floorV f (R.sz (stq R wm f g)) = .tuple #[.int .i64 (f - f % R.sz (stq R wm f g)), .int .i64 0]) := floor_fit hR hrd (stq_lt hR hgl)
  have hql : stq R wm f g < R.len := stq_lt hR hgl
  rw [← HFL.out] at HFV
  obtain ⟨fl, Hfl⟩ := hid_ex (flq R wm f g)
  obtain ⟨q, Hq⟩ := hid_ex (stq R wm f g)
  obtain ⟨K, HK⟩ := hid_ex (stp R f wm)
  rw [← Hfl.out] at HFV HNX hfb ⊢
  rw [← Hq.out] at HFV HNX hql hq ⊢
  rw [← HK.out] at hq hstl HST
  obtain ⟨s, Hs⟩ := hid_ex (R.sz q)
  rw [← Hs.out] at HFV
  obtain ⟨gn, Hgn⟩ := hid_ex (goneB R wm f)
  rw [← Hgn.out] at HGN ⊢
  clear hrd hR hbg hL hRd HFL Hfl Hq HK Hgn
  obtain ⟨av, cv, rfl, _⟩ := HRX.out.form
  obtain ⟨w1, HW1⟩ := hid_ex (w.alloc (.cells #[.slice R.a R.len R.cap, .int .i64 R.kp] 24))
  have HB1 : Hid (Below w.heap.size w w1) := by rw [HW1.out]; exact new_below _ _
  have HX1 : Hid (RBox R w.heap.size w1) := by rw [HW1.out]; exact RBox.new R w _
  have hs1 : w.heap.size < w1.heap.size := HX1.out.1
  go_enter Tryz.func69, Tryz.ntmps69
  go_wp2_with fail
  rw [← HW1.out]
  clear HW1
  refine (refRead_any _ X hxl _ (HRX.out.below HB1.out)).mono ?_
  rintro e w3 (⟨D', f', g', vd, hrd, rfl, hkl3, hb3⟩ | ⟨hrd, rfl, hb3⟩)
  · rw [HRD.out] at hrd
    simp only [Option.some.injEq, Prod.mk.injEq] at hrd
    obtain ⟨rfl, rfl, rfl⟩ := hrd
    have HB3 : Hid (Below w1.heap.size w1 w3) := hb3
    have hs3 : w1.heap.size ≤ w3.heap.size := hb3.size
    obtain ⟨va, vc, hvd, _⟩ := hkl3.r.form
    simp only at hvd
    subst hvd
    have HSR3 : Hid (SReads w3 (.slice va D.length vc) D) := hkl3.r
    obtain ⟨dn, Hdn⟩ := hid_ex D.length
    rw [← Hdn.out] at HSR3 ⊢
    obtain ⟨w4, HW4⟩ := hid_ex (w3.alloc (.cells #[.slice va dn vc, .int .i64 f, .int .i64 (g : Int)] 70))
    have hb4 : Below w3.heap.size w3 w4 := by rw [HW4.out]; exact new_below _ _
    have HY4 : Hid (w4.heap[w3.heap.size]? = some (.cells #[.slice va dn vc, .int .i64 f, .int .i64 (g : Int)] 70)) := by rw [HW4.out]; exact heap_alloc_new _ _
    have HB4 : Hid (Below w3.heap.size w3 w4) := hb4
    have HB4' : Hid (Below w1.heap.size w1 w4) := HB3.out.trans (hb4.mono HB3.out.size)
    obtain ⟨hx3, r0, r1⟩ := HX1.out.below HB3.out
    have HL4 : Hid (Lies R w4.heap.size w4) := HL.out.at (HB1.out.trans (HB4'.out.mono HB1.out.size))
    clear hkl3 hb3 hb4 Hdn
    go_wp2_with fail
    rw [← HW4.out]
    clear HW4
    refine (refExpired_any R f wm _ HL4.out).mono ?_
    rintro e w5 ⟨rfl, hb5⟩
    rw [HGN.out, HF0.out]
    have HB5 : Hid (Below w3.heap.size w3 w5) := HB4.out.trans (hb5.mono HB4.out.size)
    have HY5 : Hid (w5.heap[w3.heap.size]? = some (.cells #[.slice va dn vc, .int .i64 f, .int .i64 (g : Int)] 70)) := (hb5.block _ (Array.getElem?_eq_some_iff.1 HY4.out).1).trans HY4.out
    have HB5' : Hid (Below w1.heap.size w1 w5) := HB3.out.trans (HB5.out.mono HB3.out.size)
    clear hb5 r0 r1 HY4 HL4 HB4 HB4'
    obtain ⟨r0, r1⟩ := (HX1.out.below HB5'.out).at
    obtain ⟨k0, k1, k2⟩ := kcells HY5.out
    have HL5 : Hid (Lies R w5.heap.size w5) := HL.out.at (HB1.out.trans (HB5'.out.mono HB1.out.size))
    go_wp2_with fail
    refine (refStep_ok R f wm HF0.out K HST.out _ HL5.out).mono ?_
    rintro e w6 ⟨rfl, hb6⟩
    have HB6 : Hid (Below w3.heap.size w3 w6) := HB5.out.trans (hb6.mono HB5.out.size)
    have HY6 : Hid (w6.heap[w3.heap.size]? = some (.cells #[.slice va dn vc, .int .i64 f, .int .i64 (g : Int)] 70)) := (hb6.block _ (Array.getElem?_eq_some_iff.1 HY5.out).1).trans HY5.out
    clear hb6 r0 r1 k0 k1 k2 HY5 HL5 HB5 HB5'
    obtain ⟨k0, k1, k2⟩ := kcells HY6.out
    obtain ⟨f1, f2⟩ := kfroz HY6.out
    have HTL : Hid (∀ w7 : World, Below w3.heap.size w3 w7 → w7.heap[w3.heap.size]? = some (.cells #[.slice va dn vc, .int .i64 f, .int .i64 (q : Int)] 70) → RBox R w.heap.size w7 ∧ Lies R w7.heap.size w7 ∧ Below w.heap.size w w7 ∧ SReads w7 (.slice va dn vc) D) := fun w7 h1 _ => by
      have h2 : Below w1.heap.size w1 w7 := HB3.out.trans (h1.mono HB3.out.size)
      have h3 : Below w.heap.size w w7 := HB1.out.trans (h2.mono HB1.out.size)
      exact ⟨HX1.out.below h2, HL.out.at h3, h3, HSR3.out.below h1⟩
    by_cases hgt : (g : Int) < (K : Int)
    · have HY7 : Hid ((w6.setCell ⟨w3.heap.size, 2, none⟩ (.int .i64 (K : Int))).heap[w3.heap.size]? = some (.cells #[.slice va dn vc, .int .i64 f, .int .i64 (q : Int)] 70)) := by
        have h9 := (set3 HY6.out (.int .i64 (K : Int))).2
        rw [show q = K by omega]
        exact h9
      have HB7 : Hid (Below w3.heap.size w3 (w6.setCell ⟨w3.heap.size, 2, none⟩ (.int .i64 (K : Int)))) := HB6.out.setCell (Nat.le_refl _) _
      clear HY6 HB6
      go_wp2_with fail
      obtain ⟨w7, HW7⟩ := hid_ex (w6.setCell ⟨w3.heap.size, 2, none⟩ (.int .i64 (K : Int)))
      rw [← HW7.out] at HY7 HB7 ⊢
      clear k0 k1 k2 f1 f2 HW7 hgt
      obtain ⟨hX7, hL7, hB7, hS7⟩ := HTL.out w7 HB7.out HY7.out
      obtain ⟨r0, r1⟩ := hX7.at
      obtain ⟨k0, k1, k2⟩ := kcells HY7.out
      obtain ⟨f1, f2⟩ := kfroz HY7.out
      obtain ⟨rb, ro, ha, hrb, hsz0⟩ := HL.out.sz hql
      rw [ha] at r0
      rw [← Hs.out] at hsz0
      have hsz : w7.cell? ⟨rb, ro + q * 2, none⟩ = some (.int .i64 s) := (hB7.cell (p := ⟨rb, ro + q * 2, none⟩) hrb).trans hsz0
      have HS7 : Hid (SReads w7 (.slice va dn vc) D) := hS7
      have HBw7 : Hid (Below w.heap.size w w7) := hB7
      have hn1 : w3.heap.size ≠ w.heap.size := by omega
      have hn2 : w3.heap.size ≠ rb := by omega
      have hqi : (q : Int) < (R.len : Int) := by omega
      have HS8 : Hid ((w7.setCell ⟨w3.heap.size, 1, none⟩ (.int .i64 fl)).cell? ⟨w.heap.size, 0, none⟩ = some (.slice (some ⟨rb, ro, none⟩) R.len R.cap) ∧ (w7.setCell ⟨w3.heap.size, 1, none⟩ (.int .i64 fl)).cell? ⟨w3.heap.size, 2, none⟩ = some (.int .i64 (q : Int)) ∧ (w7.setCell ⟨w3.heap.size, 1, none⟩ (.int .i64 fl)).cell? ⟨rb, ro + q * 2, none⟩ = some (.int .i64 s)) :=
        ⟨(World.cell?_setCell_far w7 ⟨w3.heap.size, 1, none⟩ ⟨w.heap.size, 0, none⟩ _ hn1).trans r0, (kcells (set3 HY7.out (.int .i64 fl)).1).2.2, (World.cell?_setCell_far w7 ⟨w3.heap.size, 1, none⟩ ⟨rb, ro + q * 2, none⟩ _ hn2).trans hsz⟩
      have hqn : ¬ R.len ≤ q := by omega
      clear hX7 hL7 hB7 hS7 ha hrb hsz0 k0 r1 f2 hq
      refine wp_region_noPanic ?_
      refine wp_region_held_drew (S := (fun w' => w'.cell? ⟨w.heap.size, 0, none⟩ = some (.slice (some ⟨rb, ro, none⟩) R.len R.cap) ∧ w'.cell? ⟨w3.heap.size, 2, none⟩ = some (.int .i64 (q : Int)) ∧ w'.cell? ⟨rb, ro + q * 2, none⟩ = some (.int .i64 s))) (by kernel_rfl) ?_ (fun hHeld => ?_)
      · exact ⟨r0, k2, hsz⟩
      refine wpAnyH_take (i := 0) (v := .pointer (some ⟨w3.heap.size, 1, none⟩)) rfl (by kernel_rfl) (by kernel_rfl) (by kernel_rfl) (fun _ _ _ h => h) (Or.inl ⟨by rfl, ?_⟩) (by assumption) ?_
      · (intro w1 hSw; (try dsimp only at hSw); go_simp)
      simp only [List.getElem_toArray, List.getElem_cons_zero, Act.put, List.setIfInBounds_toArray, List.set_cons_zero, List.set_cons_succ]
      refine wpAnyH_take (i := 2) (v := .pointer (some ⟨w.heap.size, 0, none⟩)) rfl (by kernel_rfl) (by kernel_rfl) (by kernel_rfl) (fun _ _ _ h => h) (Or.inl ⟨by rfl, ?_⟩) (by assumption) ?_
      · (intro w1 hSw; (try dsimp only at hSw); go_simp)
      simp only [List.getElem_toArray, List.getElem_cons_succ, List.getElem_cons_zero, Act.put, List.setIfInBounds_toArray, List.set_cons_zero, List.set_cons_succ]
      refine wpAnyH_take (i := 3) (v := .slice (some ⟨rb, ro, none⟩) R.len R.cap) rfl (by kernel_rfl) (by kernel_rfl) (by kernel_rfl) (fun _ _ _ h => h) (Or.inl ⟨by rfl, ?_⟩) (by assumption) ?_
      · (intro w1 hSw; (try dsimp only at hSw); obtain ⟨h1, h2, h3⟩ := hSw; go_simp)
      simp only [List.getElem_toArray, List.getElem_cons_succ, List.getElem_cons_zero, Act.put, List.setIfInBounds_toArray, List.set_cons_zero, List.set_cons_succ]
      refine wpAnyH_take (i := 4) (v := .pointer (some ⟨w3.heap.size, 2, none⟩)) rfl (by kernel_rfl) (by kernel_rfl) (by kernel_rfl) (fun _ _ _ h => h) (Or.inl ⟨by rfl, ?_⟩) (by assumption) ?_
      · (intro w1 hSw; (try dsimp only at hSw); go_simp)
      simp only [List.getElem_toArray, List.getElem_cons_succ, List.getElem_cons_zero, Act.put, List.setIfInBounds_toArray, List.set_cons_zero, List.set_cons_succ]
      refine wpAnyH_take (i := 5) (v := .int .i64 (q : Int)) rfl (by kernel_rfl) (by kernel_rfl) (by kernel_rfl) (fun _ _ _ h => h) (Or.inl ⟨by rfl, ?_⟩) (by assumption) ?_
      · (intro w1 hSw; (try dsimp only at hSw); obtain ⟨h1, h2, h3⟩ := hSw; go_simp)
      simp only [List.getElem_toArray, List.getElem_cons_succ, List.getElem_cons_zero, Act.put, List.setIfInBounds_toArray, List.set_cons_zero, List.set_cons_succ]
      refine wpAnyH_take (i := 6) (v := .pointer (some ⟨rb, ro + q * 2, none⟩)) rfl (by kernel_rfl) (by kernel_rfl) (by kernel_rfl) (fun _ _ _ h => h) (Or.inl ⟨by rfl, ?_⟩) (by assumption) ?_
      · (intro w1 hSw; (try dsimp only at hSw); go_simp)
      simp only [List.getElem_toArray, List.getElem_cons_succ, List.getElem_cons_zero, Act.put, List.setIfInBounds_toArray, List.set_cons_zero, List.set_cons_succ]
      refine wpAnyH_take (i := 7) (v := .pointer (some ⟨rb, ro + q * 2, none⟩)) rfl (by kernel_rfl) (by kernel_rfl) (by kernel_rfl) (fun _ _ _ h => h) (Or.inl ⟨by rfl, ?_⟩) (by assumption) ?_
      · (intro w1 hSw; (try dsimp only at hSw); go_simp)
      simp only [List.getElem_toArray, List.getElem_cons_succ, List.getElem_cons_zero, Act.put, List.setIfInBounds_toArray, List.set_cons_zero, List.set_cons_succ]
      refine wpAnyH_take (i := 8) (v := .int .i64 s) rfl (by kernel_rfl) (by kernel_rfl) (by kernel_rfl) (fun _ _ _ h => h) (Or.inl ⟨by rfl, ?_⟩) (by assumption) ?_
      · (intro w1 hSw; (try dsimp only at hSw); obtain ⟨h1, h2, h3⟩ := hSw; go_simp)
      simp only [List.getElem_toArray, List.getElem_cons_succ, List.getElem_cons_zero, Act.put, List.setIfInBounds_toArray, List.set_cons_zero, List.set_cons_succ]
      refine wpAnyH_ready (rs := [1]) (by kernel_rfl) (by simp) ?_
      refine AllReadyH.cons (o := _) rfl (fun K hK => ?_) AllReadyH.nil
      go_simp
      refine hK.out _ _ ?_ (fun hHeld => ?_)
      · exact ⟨r0, k2, hsz⟩
      clear hK K
      refine wpAnyH_ready (rs := [9]) (by kernel_rfl) (by simp) ?_
      refine AllReadyH.cons (o := _) rfl (fun K hK => ?_) AllReadyH.nil
      go_simp
      refine (refFloor_any f s _).mono ?_
      rintro e w' ⟨rfl, rfl⟩
      rw [HFV.out]
      refine hK.out _ _ ?_ (fun hHeld => ?_)
      · exact ⟨r0, k2, hsz⟩
      clear hK K
      refine wpAnyH_take (i := 10) (v := .tuple #[.int .i64 fl, .int .i64 0]) rfl (by kernel_rfl) (by kernel_rfl) (by kernel_rfl) (fun _ _ _ h => h) (Or.inl ⟨by rfl, ?_⟩) (by assumption) ?_
      · (intro w1 hSw; (try dsimp only at hSw); go_simp)
      simp only [List.getElem_toArray, List.getElem_cons_succ, List.getElem_cons_zero, Act.put, List.setIfInBounds_toArray, List.set_cons_zero, List.set_cons_succ]
      refine wpAnyH_take (i := 11) (v := .int .i64 fl) rfl (by kernel_rfl) (by kernel_rfl) (by kernel_rfl) (fun _ _ _ h => h) (Or.inl ⟨by rfl, ?_⟩) (by assumption) ?_
      · (intro w1 hSw; (try dsimp only at hSw); go_simp)
      simp only [List.getElem_toArray, List.getElem_cons_succ, List.getElem_cons_zero, Act.put, List.setIfInBounds_toArray, List.set_cons_zero, List.set_cons_succ]
      refine wpAnyH_take (i := 12) (v := .int .i64 0) rfl (by kernel_rfl) (by kernel_rfl) (by kernel_rfl) (fun _ _ _ h => h) (Or.inl ⟨by rfl, ?_⟩) (by assumption) ?_
      · (intro w1 hSw; (try dsimp only at hSw); go_simp)
      simp only [List.getElem_toArray, List.getElem_cons_succ, List.getElem_cons_zero, Act.put, List.setIfInBounds_toArray, List.set_cons_zero, List.set_cons_succ]
      refine wpAnyH_take (i := 13) (v := .pointer (some ⟨w3.heap.size, 1, none⟩)) rfl (by kernel_rfl) (by kernel_rfl) (by kernel_rfl) (fun _ _ _ h => h) (Or.inl ⟨by rfl, ?_⟩) (by assumption) ?_
      · (intro w1 hSw; (try dsimp only at hSw); go_simp)
      simp only [List.getElem_toArray, List.getElem_cons_succ, List.getElem_cons_zero, Act.put, List.setIfInBounds_toArray, List.set_cons_zero, List.set_cons_succ]
      refine wpAnyH_ready (rs := [14]) (by kernel_rfl) (by simp) ?_
      refine AllReadyH.cons (o := _) rfl (fun K hK => ?_) AllReadyH.nil
      go_simp
      refine hK.out _ _ ?_ (fun hHeld => ?_)
      · exact HS8.out
      clear hK K
      clear hHeld
      refine wpAnyH_done (by kernel_rfl) ?_ _
      refine NoPanic.normal ?_
      obtain ⟨w8, HW8⟩ := hid_ex ((w7.setCell ⟨w3.heap.size, 1, none⟩ (.int .i64 fl)).drew)
      have HY8 : Hid (w8.heap[w3.heap.size]? = some (.cells #[.slice va dn vc, .int .i64 fl, .int .i64 (q : Int)] 70)) := by rw [HW8.out]; exact (set3 HY7.out (.int .i64 fl)).1
      have HB8 : Hid (Below w3.heap.size w3 w8) := by rw [HW8.out]; exact (HB7.out.setCell (Nat.le_refl _) _).drew
      have HBw8 : Hid (Below w.heap.size w w8) := by
        have h2 : Below w1.heap.size w1 w8 := HB3.out.trans (HB8.out.mono HB3.out.size)
        exact HB1.out.trans (h2.mono HB1.out.size)
      have HS8' : Hid (SReads w8 (.slice va dn vc) D) := HSR3.out.below HB8.out
      obtain ⟨j0, j1, j2⟩ := kcells HY8.out
      rw [← HW8.out]
      clear HW8 r0 k1 k2 f1 hsz HS8 HY7 HB7 HS7 HBw7 HY8 HB8
      go_wp2_with fail
      refine (refWrite_yes ⟨.slice va dn vc, D, fl, (q : Int)⟩ HNX.out _ ⟨HS8'.out, by simp only; omega, by simp only; omega, by simp only; omega, by simp only; omega⟩).mono ?_
      rintro e w9 ⟨v9, rfl, ho9, hb9⟩
      have HO9 : Hid (Own w9 w.heap.size v9 (kb D fl (q : Int))) := ho9.mono HBw8.out.size
      have HB9 : Hid (Below w.heap.size w w9) := HBw8.out.trans (hb9.mono HBw8.out.size)
      clear ho9 hb9 j0 j1 j2
      go_wp2_with fail
      go_ret2
      exact ⟨v9, rfl, HO9.out, HB9.out⟩
    · have HY7 : Hid (w6.heap[w3.heap.size]? = some (.cells #[.slice va dn vc, .int .i64 f, .int .i64 (q : Int)] 70)) := by
        rw [show q = g by omega]
        exact HY6.out
      have HB7 : Hid (Below w3.heap.size w3 w6) := HB6.out
      clear HY6 HB6
      go_wp2_with fail
      obtain ⟨w7, HW7⟩ := hid_ex w6
      rw [← HW7.out] at HY7 HB7 ⊢
      clear k0 k1 k2 f1 f2 HW7 hgt
      obtain ⟨hX7, hL7, hB7, hS7⟩ := HTL.out w7 HB7.out HY7.out
      obtain ⟨r0, r1⟩ := hX7.at
      obtain ⟨k0, k1, k2⟩ := kcells HY7.out
      obtain ⟨f1, f2⟩ := kfroz HY7.out
      obtain ⟨rb, ro, ha, hrb, hsz0⟩ := HL.out.sz hql
      rw [ha] at r0
      rw [← Hs.out] at hsz0
      have hsz : w7.cell? ⟨rb, ro + q * 2, none⟩ = some (.int .i64 s) := (hB7.cell (p := ⟨rb, ro + q * 2, none⟩) hrb).trans hsz0
      have HS7 : Hid (SReads w7 (.slice va dn vc) D) := hS7
      have HBw7 : Hid (Below w.heap.size w w7) := hB7
      have hn1 : w3.heap.size ≠ w.heap.size := by omega
      have hn2 : w3.heap.size ≠ rb := by omega
      have hqi : (q : Int) < (R.len : Int) := by omega
      have HS8 : Hid ((w7.setCell ⟨w3.heap.size, 1, none⟩ (.int .i64 fl)).cell? ⟨w.heap.size, 0, none⟩ = some (.slice (some ⟨rb, ro, none⟩) R.len R.cap) ∧ (w7.setCell ⟨w3.heap.size, 1, none⟩ (.int .i64 fl)).cell? ⟨w3.heap.size, 2, none⟩ = some (.int .i64 (q : Int)) ∧ (w7.setCell ⟨w3.heap.size, 1, none⟩ (.int .i64 fl)).cell? ⟨rb, ro + q * 2, none⟩ = some (.int .i64 s)) :=
        ⟨(World.cell?_setCell_far w7 ⟨w3.heap.size, 1, none⟩ ⟨w.heap.size, 0, none⟩ _ hn1).trans r0, (kcells (set3 HY7.out (.int .i64 fl)).1).2.2, (World.cell?_setCell_far w7 ⟨w3.heap.size, 1, none⟩ ⟨rb, ro + q * 2, none⟩ _ hn2).trans hsz⟩
      have hqn : ¬ R.len ≤ q := by omega
      clear hX7 hL7 hB7 hS7 ha hrb hsz0 k0 r1 f2 hq
      refine wp_region_noPanic ?_
      refine wp_region_held_drew (S := (fun w' => w'.cell? ⟨w.heap.size, 0, none⟩ = some (.slice (some ⟨rb, ro, none⟩) R.len R.cap) ∧ w'.cell? ⟨w3.heap.size, 2, none⟩ = some (.int .i64 (q : Int)) ∧ w'.cell? ⟨rb, ro + q * 2, none⟩ = some (.int .i64 s))) (by kernel_rfl) ?_ (fun hHeld => ?_)
      · exact ⟨r0, k2, hsz⟩
      refine wpAnyH_take (i := 0) (v := .pointer (some ⟨w3.heap.size, 1, none⟩)) rfl (by kernel_rfl) (by kernel_rfl) (by kernel_rfl) (fun _ _ _ h => h) (Or.inl ⟨by rfl, ?_⟩) (by assumption) ?_
      · (intro w1 hSw; (try dsimp only at hSw); go_simp)
      simp only [List.getElem_toArray, List.getElem_cons_zero, Act.put, List.setIfInBounds_toArray, List.set_cons_zero, List.set_cons_succ]
      refine wpAnyH_take (i := 2) (v := .pointer (some ⟨w.heap.size, 0, none⟩)) rfl (by kernel_rfl) (by kernel_rfl) (by kernel_rfl) (fun _ _ _ h => h) (Or.inl ⟨by rfl, ?_⟩) (by assumption) ?_
      · (intro w1 hSw; (try dsimp only at hSw); go_simp)
      simp only [List.getElem_toArray, List.getElem_cons_succ, List.getElem_cons_zero, Act.put, List.setIfInBounds_toArray, List.set_cons_zero, List.set_cons_succ]
      refine wpAnyH_take (i := 3) (v := .slice (some ⟨rb, ro, none⟩) R.len R.cap) rfl (by kernel_rfl) (by kernel_rfl) (by kernel_rfl) (fun _ _ _ h => h) (Or.inl ⟨by rfl, ?_⟩) (by assumption) ?_
      · (intro w1 hSw; (try dsimp only at hSw); obtain ⟨h1, h2, h3⟩ := hSw; go_simp)
      simp only [List.getElem_toArray, List.getElem_cons_succ, List.getElem_cons_zero, Act.put, List.setIfInBounds_toArray, List.set_cons_zero, List.set_cons_succ]
      refine wpAnyH_take (i := 4) (v := .pointer (some ⟨w3.heap.size, 2, none⟩)) rfl (by kernel_rfl) (by kernel_rfl) (by kernel_rfl) (fun _ _ _ h => h) (Or.inl ⟨by rfl, ?_⟩) (by assumption) ?_
      · (intro w1 hSw; (try dsimp only at hSw); go_simp)
      simp only [List.getElem_toArray, List.getElem_cons_succ, List.getElem_cons_zero, Act.put, List.setIfInBounds_toArray, List.set_cons_zero, List.set_cons_succ]
      refine wpAnyH_take (i := 5) (v := .int .i64 (q : Int)) rfl (by kernel_rfl) (by kernel_rfl) (by kernel_rfl) (fun _ _ _ h => h) (Or.inl ⟨by rfl, ?_⟩) (by assumption) ?_
      · (intro w1 hSw; (try dsimp only at hSw); obtain ⟨h1, h2, h3⟩ := hSw; go_simp)
      simp only [List.getElem_toArray, List.getElem_cons_succ, List.getElem_cons_zero, Act.put, List.setIfInBounds_toArray, List.set_cons_zero, List.set_cons_succ]
      refine wpAnyH_take (i := 6) (v := .pointer (some ⟨rb, ro + q * 2, none⟩)) rfl (by kernel_rfl) (by kernel_rfl) (by kernel_rfl) (fun _ _ _ h => h) (Or.inl ⟨by rfl, ?_⟩) (by assumption) ?_
      · (intro w1 hSw; (try dsimp only at hSw); go_simp)
      simp only [List.getElem_toArray, List.getElem_cons_succ, List.getElem_cons_zero, Act.put, List.setIfInBounds_toArray, List.set_cons_zero, List.set_cons_succ]
      refine wpAnyH_take (i := 7) (v := .pointer (some ⟨rb, ro + q * 2, none⟩)) rfl (by kernel_rfl) (by kernel_rfl) (by kernel_rfl) (fun _ _ _ h => h) (Or.inl ⟨by rfl, ?_⟩) (by assumption) ?_
      · (intro w1 hSw; (try dsimp only at hSw); go_simp)
      simp only [List.getElem_toArray, List.getElem_cons_succ, List.getElem_cons_zero, Act.put, List.setIfInBounds_toArray, List.set_cons_zero, List.set_cons_succ]
      refine wpAnyH_take (i := 8) (v := .int .i64 s) rfl (by kernel_rfl) (by kernel_rfl) (by kernel_rfl) (fun _ _ _ h => h) (Or.inl ⟨by rfl, ?_⟩) (by assumption) ?_
      · (intro w1 hSw; (try dsimp only at hSw); obtain ⟨h1, h2, h3⟩ := hSw; go_simp)
      simp only [List.getElem_toArray, List.getElem_cons_succ, List.getElem_cons_zero, Act.put, List.setIfInBounds_toArray, List.set_cons_zero, List.set_cons_succ]
      refine wpAnyH_ready (rs := [1]) (by kernel_rfl) (by simp) ?_
      refine AllReadyH.cons (o := _) rfl (fun K hK => ?_) AllReadyH.nil
      go_simp
      refine hK.out _ _ ?_ (fun hHeld => ?_)
      · exact ⟨r0, k2, hsz⟩
      clear hK K
      refine wpAnyH_ready (rs := [9]) (by kernel_rfl) (by simp) ?_
      refine AllReadyH.cons (o := _) rfl (fun K hK => ?_) AllReadyH.nil
      go_simp
      refine (refFloor_any f s _).mono ?_
      rintro e w' ⟨rfl, rfl⟩
      rw [HFV.out]
      refine hK.out _ _ ?_ (fun hHeld => ?_)
      · exact ⟨r0, k2, hsz⟩
      clear hK K
      refine wpAnyH_take (i := 10) (v := .tuple #[.int .i64 fl, .int .i64 0]) rfl (by kernel_rfl) (by kernel_rfl) (by kernel_rfl) (fun _ _ _ h => h) (Or.inl ⟨by rfl, ?_⟩) (by assumption) ?_
      · (intro w1 hSw; (try dsimp only at hSw); go_simp)
      simp only [List.getElem_toArray, List.getElem_cons_succ, List.getElem_cons_zero, Act.put, List.setIfInBounds_toArray, List.set_cons_zero, List.set_cons_succ]
      refine wpAnyH_take (i := 11) (v := .int .i64 fl) rfl (by kernel_rfl) (by kernel_rfl) (by kernel_rfl) (fun _ _ _ h => h) (Or.inl ⟨by rfl, ?_⟩) (by assumption) ?_
      · (intro w1 hSw; (try dsimp only at hSw); go_simp)
      simp only [List.getElem_toArray, List.getElem_cons_succ, List.getElem_cons_zero, Act.put, List.setIfInBounds_toArray, List.set_cons_zero, List.set_cons_succ]
      refine wpAnyH_take (i := 12) (v := .int .i64 0) rfl (by kernel_rfl) (by kernel_rfl) (by kernel_rfl) (fun _ _ _ h => h) (Or.inl ⟨by rfl, ?_⟩) (by assumption) ?_
      · (intro w1 hSw; (try dsimp only at hSw); go_simp)
      simp only [List.getElem_toArray, List.getElem_cons_succ, List.getElem_cons_zero, Act.put, List.setIfInBounds_toArray, List.set_cons_zero, List.set_cons_succ]
      refine wpAnyH_take (i := 13) (v := .pointer (some ⟨w3.heap.size, 1, none⟩)) rfl (by kernel_rfl) (by kernel_rfl) (by kernel_rfl) (fun _ _ _ h => h) (Or.inl ⟨by rfl, ?_⟩) (by assumption) ?_
      · (intro w1 hSw; (try dsimp only at hSw); go_simp)
      simp only [List.getElem_toArray, List.getElem_cons_succ, List.getElem_cons_zero, Act.put, List.setIfInBounds_toArray, List.set_cons_zero, List.set_cons_succ]
      refine wpAnyH_ready (rs := [14]) (by kernel_rfl) (by simp) ?_
      refine AllReadyH.cons (o := _) rfl (fun K hK => ?_) AllReadyH.nil
      go_simp
      refine hK.out _ _ ?_ (fun hHeld => ?_)
      · exact HS8.out
      clear hK K
      clear hHeld
      refine wpAnyH_done (by kernel_rfl) ?_ _
      refine NoPanic.normal ?_
      obtain ⟨w8, HW8⟩ := hid_ex ((w7.setCell ⟨w3.heap.size, 1, none⟩ (.int .i64 fl)).drew)
      have HY8 : Hid (w8.heap[w3.heap.size]? = some (.cells #[.slice va dn vc, .int .i64 fl, .int .i64 (q : Int)] 70)) := by rw [HW8.out]; exact (set3 HY7.out (.int .i64 fl)).1
      have HB8 : Hid (Below w3.heap.size w3 w8) := by rw [HW8.out]; exact (HB7.out.setCell (Nat.le_refl _) _).drew
      have HBw8 : Hid (Below w.heap.size w w8) := by
        have h2 : Below w1.heap.size w1 w8 := HB3.out.trans (HB8.out.mono HB3.out.size)
        exact HB1.out.trans (h2.mono HB1.out.size)
      have HS8' : Hid (SReads w8 (.slice va dn vc) D) := HSR3.out.below HB8.out
      obtain ⟨j0, j1, j2⟩ := kcells HY8.out
      rw [← HW8.out]
      clear HW8 r0 k1 k2 f1 hsz HS8 HY7 HB7 HS7 HBw7 HY8 HB8
      go_wp2_with fail
      refine (refWrite_yes ⟨.slice va dn vc, D, fl, (q : Int)⟩ HNX.out _ ⟨HS8'.out, by simp only; omega, by simp only; omega, by simp only; omega, by simp only; omega⟩).mono ?_
      rintro e w9 ⟨v9, rfl, ho9, hb9⟩
      have HO9 : Hid (Own w9 w.heap.size v9 (kb D fl (q : Int))) := ho9.mono HBw8.out.size
      have HB9 : Hid (Below w.heap.size w w9) := HBw8.out.trans (hb9.mono HBw8.out.size)
      clear ho9 hb9 j0 j1 j2
      go_wp2_with fail
      go_ret2
      exact ⟨v9, rfl, HO9.out, HB9.out⟩
  · rw [HRD.out] at hrd
    cases hrd
end Go.Proofs.YtoenijflijfogaaGreat

/- The reference's Put (written by mkma3.py). -/
namespace Go.Proofs.YtoenijflijfogaaGreat
open Go.RowKit

theorem wp_app_runE {w w' : World} {o : Oper} {a : Act} {K : Act → World → Prop} {Q : Exit → Act → World → Prop} (s x : Operand) (t ty : TypeId) (ho : o.op = .call { callee := .builtin .append, args := #[s, x], argTypes := #[t, t] }) (hty : o.type = ty) (v vx v' : Value) (hs : a.eval s = v) (hx : a.eval x = vx)
    (hrun : (Builtin.append_ #[t, t] ty #[v, vx]).run Tryz.prog w = .ok v' w') (h : K (a.put o.dst v') w') : o.wp Tryz.prog a w K Q := by
  subst hty
  unfold Oper.wp
  simp [execOp, ho, resolve, invoke, builtin, hs, hx, hrun, Result.andThen]
  exact h
theorem wpList_app_runE {w w' : World} {ops : Array Oper} {rest : List Oper} {o : Oper} {a : Act} {Q : Exit → Act → World → Prop} (hgd : o.guard = none) (s x : Operand) (t ty : TypeId) (ho : o.op = .call { callee := .builtin .append, args := #[s, x], argTypes := #[t, t] }) (hty : o.type = ty) (v vx v' : Value) (hs : a.eval s = v) (hx : a.eval x = vx)
    (hrun : (Builtin.append_ #[t, t] ty #[v, vx]).run Tryz.prog w = .ok v' w') (h : wpList Tryz.prog ops Q rest (a.put o.dst v') w') : wpList Tryz.prog ops Q (o :: rest) a w :=
  wpList_plain hgd fun _ hK => wp_app_runE s x t ty ho hty v vx v' hs hx hrun (hK _ _ h)
theorem gd_over {a : Ag} (h : Gd a) : a.o = true → a.c = 18446744073709551615 := by
  intro ho
  have hr := h.r
  unfold rightB at hr
  split at hr
  · rw [ho] at hr; simp at hr
  · rw [ho] at hr; simp at hr; exact hr.2
theorem below_dn (w : World) (n : Nat) : Below w.heap.size w (w.drewN n) := ⟨rfl, rfl, rfl, Nat.le_refl _, fun _ _ => rfl⟩
theorem lessNo {Y X : Ks} (h : ¬ ltK Y X) : Op.bytesLess Y X = false := less_no h
/-- The box of an entry. -/
theorem box7 {w : World} {b : Nat} {kv : Value} {a : Ag} {T : TypeId} (h : w.heap[b]? = some (.cells #[kv, .int .u64 a.c, .bool a.o, .int .i64 (hi a.s), .int .u64 (lo a.s), .int .i64 a.mn, .int .i64 a.mx] T)) :
    w.cell? ⟨b, 0, none⟩ = some kv ∧ w.cell? ⟨b, 1, none⟩ = some (.int .u64 a.c) ∧ w.cell? ⟨b, 2, none⟩ = some (.bool a.o) ∧ w.cell? ⟨b, 3, none⟩ = some (.int .i64 (hi a.s)) ∧ w.cell? ⟨b, 4, none⟩ = some (.int .u64 (lo a.s)) ∧ w.cell? ⟨b, 5, none⟩ = some (.int .i64 a.mn) ∧ w.cell? ⟨b, 6, none⟩ = some (.int .i64 a.mx) := by
  refine ⟨?_, ?_, ?_, ?_, ?_, ?_, ?_⟩ <;> simp [World.cell?, h]
theorem new7 {w : World} {kv : Value} {a : Ag} {k : Ks} {T : TypeId} : ERc (w.alloc (.cells #[kv, .int .u64 a.c, .bool a.o, .int .i64 (hi a.s), .int .u64 (lo a.s), .int .i64 a.mn, .int .i64 a.mx] T)) (.slice (some ⟨w.heap.size, 0, none⟩) 1 1) [⟨kv, k, a⟩] := by
  refine ⟨_, 1, rfl, by simp, by simp [maxLen], .inr ⟨w.heap.size, 0, rfl, by simp, fun j hj i hlt7 => ?_⟩⟩
  have e : j = 0 := by simpa using hj
  subst e
  have hn := heap_alloc_new w (.cells #[kv, .int .u64 a.c, .bool a.o, .int .i64 (hi a.s), .int .u64 (lo a.s), .int .i64 a.mn, .int .i64 a.mx] T)
  simp only [World.cell?]
  rw [hn]
  match i, hlt7 with
  | 0, _ => rfl
  | 1, _ => rfl
  | 2, _ => rfl
  | 3, _ => rfl
  | 4, _ => rfl
  | 5, _ => rfl
  | 6, _ => rfl
set_option maxRecDepth 100000 in
set_option maxHeartbeats 8000000 in
theorem refPut_own (W0 : World) (v : Value) (xs : List Ev) (kv : Value) (X : Ks) (a : Ag) (w : World) (hW : Below W0.heap.size W0 w) (hrc : ERc w v xs) (hev : EvR W0 xs) (hR : Reads W0 kv X) (hG : Gd a) (hGL : GdE (xs.map evE)) (hlen : xs.length ≤ 100000000) :
    Calls Tryz.prog 43 #[v, .agg #[kv, .int .u64 a.c, .bool a.o, .int .i64 (hi a.s), .int .u64 (lo a.s), .int .i64 a.mn, .int .i64 a.mx]] w fun e w' => ∃ v' ys, e = .returned v' ∧ OwnE w' w.heap.size v' ys ∧ EvR W0 ys ∧ ys.map evE = ins (X, a) (xs.map evE) ∧ Below w.heap.size w w' := by
  have HE0 : Hid (EvR W0 xs) := hev
  have HK0 : Hid (Reads W0 kv X) := hR
  have hev : EvR w xs := hev.below hW
  have hR : Reads w kv X := hR.below hW
  have HGL : Hid (GdE (xs.map evE)) := hGL
  have HEV : Hid (EvR w xs) := hev
  have HG := (show Hid _ from hG)
  obtain ⟨va, vc, rfl, hv1, hv2⟩ := hrc.form
  have HRC : Hid (ERc w (.slice va xs.length vc) xs) := hrc
  obtain ⟨ax, cx, rfl, hxl⟩ := hR.form
  have HKX : Hid (Reads w (.slice ax X.length cx) X) := hR
  unfold maxLen at hv2 hxl
  clear hR hG hGL hrc hev hW
  obtain ⟨w1, H1⟩ := hid_ex (w.alloc (.cells #[.slice ax X.length cx, .int .u64 a.c, .bool a.o, .int .i64 (hi a.s), .int .u64 (lo a.s), .int .i64 a.mn, .int .i64 a.mx] 60))
  have HX1 : Hid (w1.heap[w.heap.size]? = some (.cells #[.slice ax X.length cx, .int .u64 a.c, .bool a.o, .int .i64 (hi a.s), .int .u64 (lo a.s), .int .i64 a.mn, .int .i64 a.mx] 60)) := by rw [H1.out]; exact heap_alloc_new w _
  have HB1 : Hid (Below w.heap.size w w1) := by rw [H1.out]; exact (Below.refl _ _).alloc (Nat.le_refl _) _
  have hs1 : w.heap.size < w1.heap.size := by rw [H1.out]; simp
  go_enter Tryz.func43, Tryz.ntmps43
  go_wp2_with fail
  rw [← H1.out]
  clear H1
  go_loopw [5] (fun i wr => ∃ k : Nat, k ≤ xs.length ∧ i = .int .i64 (k : Int) ∧ Hid (∀ y ∈ xs.take k, ltK y.k X) ∧ Hid (Below w1.heap.size w1 wr)) (fun i _ => xs.length - (intOf i).toNat)
  case atStart => exact ⟨0, by omega, rfl, fun y hy => (by cases hy), Below.refl _ _⟩
  case round =>
    obtain ⟨k, hk, rfl, HLT, HBr⟩ := hrel
    have HBw : Hid (Below w.heap.size w wr) := HB1.out.trans (HBr.out.mono HB1.out.size)
    have HXr : Hid (wr.heap[w.heap.size]? = some (.cells #[.slice ax X.length cx, .int .u64 a.c, .bool a.o, .int .i64 (hi a.s), .int .u64 (lo a.s), .int .i64 a.mn, .int .i64 a.mx] 60)) := (HBr.out.block _ hs1).trans HX1.out
    obtain ⟨x0, x1, x2, x3, x4, x5, x6⟩ := box7 HXr.out
    have HRx : Hid (Reads wr (.slice ax X.length cx) X) := HKX.out.below HBw.out
    have hq2 : ∀ n, (convert 58 9 (.slice ax X.length cx)).run Tryz.prog (wr.drewN n) = .ok (.string ⟨X.toArray⟩) (wr.drewN n) := fun n => reads_text (HRx.out.below (below_dn _ n))
    have hsr := HBw.out.size
    by_cases hlt : k < xs.length
    · obtain ⟨b, off, rfl, hbb, hcs⟩ := (HRC.out.below HBw.out).ptr (by omega)
      obtain ⟨Y, HY⟩ := hid_ex xs[k]
      have HRY : Hid (Reads wr Y.kv Y.k ∧ CnOk Y.a) := by rw [HY.out]; exact ⟨(HEV.out _ (List.getElem_mem hlt)).1.below HBw.out, (HEV.out _ (List.getElem_mem hlt)).2⟩
      have hcs' := hcs k hlt
      rw [← HY.out] at hcs'
      obtain ⟨kY, Yk, Ya⟩ := Y
      obtain ⟨ay, cy, eY, _⟩ := HRY.out.1.form
      simp only at eY
      subst eY
      have q0 := hcs' 0 (by decide)
      have q1 := hcs' 1 (by decide)
      have q2 := hcs' 2 (by decide)
      have q3 := hcs' 3 (by decide)
      have q4 := hcs' 4 (by decide)
      have q5 := hcs' 5 (by decide)
      have q6 := hcs' 6 (by decide)
      simp only [c7, List.getElem_cons_zero, List.getElem_cons_succ] at q0 q1 q2 q3 q4 q5 q6
      rw [show off + (7 * k + 0) = off + k * 7 by omega] at q0
      rw [show off + (7 * k + 1) = off + k * 7 + 1 by omega] at q1
      rw [show off + (7 * k + 2) = off + k * 7 + 1 + 1 by omega] at q2
      rw [show off + (7 * k + 3) = off + k * 7 + 1 + 2 by omega] at q3
      rw [show off + (7 * k + 4) = off + k * 7 + 1 + 3 by omega] at q4
      rw [show off + (7 * k + 5) = off + k * 7 + 1 + 4 by omega] at q5
      rw [show off + (7 * k + 6) = off + k * 7 + 1 + 5 by omega] at q6
      have hq1 : ∀ n, (convert 58 9 (.slice ay Yk.length cy)).run Tryz.prog (wr.drewN n) = .ok (.string ⟨Yk.toArray⟩) (wr.drewN n) := fun n => reads_text (HRY.out.1.below (below_dn _ n))
      have hil : decide ((k : Int) < (xs.length : Int)) = true := by simp; omega
      clear hcs hcs'
      by_cases hl : ltK Yk X
      · have hle : Op.bytesLess Yk X = true := (less_iff _ _).2 hl
        have HLT2 : Hid (∀ y ∈ xs.take (k + 1), ltK y.k X) := by
          intro y hy
          rw [List.take_succ_eq_append_getElem hlt] at hy
          rcases List.mem_append.1 hy with h | h
          · exact HLT.out y h
          · obtain rfl := List.mem_singleton.1 h
            rw [← HY.out]; exact hl
        clear hl
        go_wp2_with fail
        go_quiet (fail)
        clear hq1 hq2 q0 q1 q2 q3 q4 q5 q6 x0 x1 x2 x3 x4 x5 x6
        go_wp2_with fail
        go_roundw
        case rel => exact ⟨k + 1, by omega, by go_num, HLT2.out, HBr.out.trans ⟨rfl, rfl, rfl, Nat.le_refl _, fun _ _ => rfl⟩⟩
        case measure => simp [intOf]; omega
      · have hle : Op.bytesLess Yk X = false := lessNo hl
        have HTR : Hid (Yk = X ∨ ltK X Yk) := by
          rcases ltK_tri Yk X with h | h | h
          · exact absurd h hl
          · exact .inl h
          · exact .inr h
        clear hl
        go_wp2_with fail
        go_quiet (fail)
        clear hq1 hq2 x0 x1 x2 x3 x4 x5 x6 q0 q1 q2 q3 q4 q5 q6 hle
        obtain ⟨w3, H3⟩ := hid_ex (wr.drewN nq)
        have HBw3 : Hid (Below w.heap.size w w3) := by rw [H3.out]; exact HBw.out.trans ⟨rfl, rfl, rfl, Nat.le_refl _, fun _ _ => rfl⟩
        have HX3 : Hid (w3.heap[w.heap.size]? = some (.cells #[.slice ax X.length cx, .int .u64 a.c, .bool a.o, .int .i64 (hi a.s), .int .u64 (lo a.s), .int .i64 a.mn, .int .i64 a.mx] 60)) := by rw [H3.out]; exact HXr.out
        have HRC3 : Hid (ERc w3 (.slice (some ⟨b, off, none⟩) xs.length vc) xs) := HRC.out.below HBw3.out
        have HEV3 : Hid (EvR w3 xs) := HEV.out.below HBw3.out
        have hs3 : w.heap.size < w3.heap.size := by rw [H3.out]; exact Nat.lt_of_lt_of_le hs1 HBr.out.size
        rw [← H3.out]
        clear H3
        obtain ⟨a1, c1, hsl1, hrc1⟩ := esl_uptoM HRC3.out (d := k) hk
        have hev1 : EvR w3 (xs.take k) := fun y hy => HEV3.out y (List.mem_of_mem_take hy)
        have hl1 : (xs.take k).length = k := by rw [List.length_take]; omega
        obtain ⟨v1, w4, hrun1, hown1, hb1⟩ := run_appE (w := w3) w3.heap.size 25 (.slice none 0 0) (.slice a1 k c1) [] (xs.take k) (OwnE.nil _ _) hrc1 hev1 (by simp; omega) (Nat.le_refl _)
        rw [List.nil_append] at hown1
        have HB4 : Hid (Below w3.heap.size w3 w4) := hb1
        obtain ⟨o1, p1, e1, _, _⟩ := hown1.rc.form
        rw [hl1] at e1
        subst e1
        have HO1 : Hid (OwnE w4 w3.heap.size (.slice o1 k p1) (xs.take k)) := hown1
        clear hown1 hb1 hrc1 hev1
        go_wp2_with (at_builtin; refine wpList_app_runE rfl _ _ _ _ rfl rfl _ _ _ rfl rfl hrun1 ?_; clear hrun1 hsl1)
        clear HBw HBr HXr HRx hsr
        have HX4 : Hid (w4.heap[w.heap.size]? = some (.cells #[.slice ax X.length cx, .int .u64 a.c, .bool a.o, .int .i64 (hi a.s), .int .u64 (lo a.s), .int .i64 a.mn, .int .i64 a.mx] 60)) := (HB4.out.block _ hs3).trans HX3.out
        obtain ⟨x0, x1, x2, x3, x4, x5, x6⟩ := box7 HX4.out
        have HRx4 : Hid (Reads w4 (.slice ax X.length cx) X) := HKX.out.below (HBw3.out.trans (HB4.out.mono HBw3.out.size))
        have hq2 : ∀ n, (convert 58 9 (.slice ax X.length cx)).run Tryz.prog (w4.drewN n) = .ok (.string ⟨X.toArray⟩) (w4.drewN n) := fun n => reads_text (HRx4.out.below (below_dn _ n))
        obtain ⟨b', off', eb, hbb4, hcs4⟩ := (HRC3.out.below HB4.out).ptr (by omega)
        cases eb
        have HRY4 : Hid (Reads w4 (.slice ay Yk.length cy) Yk) := by
          have h := (HEV3.out.below HB4.out) _ (List.getElem_mem hlt)
          rw [← HY.out] at h
          exact h.1
        have hq1 : ∀ n, (convert 58 9 (.slice ay Yk.length cy)).run Tryz.prog (w4.drewN n) = .ok (.string ⟨Yk.toArray⟩) (w4.drewN n) := fun n => reads_text (HRY4.out.below (below_dn _ n))
        have hcs' := hcs4 k hlt
        rw [← HY.out] at hcs'
        have q0 := hcs' 0 (by decide)
        have q1 := hcs' 1 (by decide)
        have q2 := hcs' 2 (by decide)
        have q3 := hcs' 3 (by decide)
        have q4 := hcs' 4 (by decide)
        have q5 := hcs' 5 (by decide)
        have q6 := hcs' 6 (by decide)
        simp only [c7, List.getElem_cons_zero, List.getElem_cons_succ] at q0 q1 q2 q3 q4 q5 q6
        rw [show off + (7 * k + 0) = off + k * 7 by omega] at q0
        rw [show off + (7 * k + 1) = off + k * 7 + 1 by omega] at q1
        rw [show off + (7 * k + 2) = off + k * 7 + 1 + 1 by omega] at q2
        rw [show off + (7 * k + 3) = off + k * 7 + 1 + 2 by omega] at q3
        rw [show off + (7 * k + 4) = off + k * 7 + 1 + 3 by omega] at q4
        rw [show off + (7 * k + 5) = off + k * 7 + 1 + 4 by omega] at q5
        rw [show off + (7 * k + 6) = off + k * 7 + 1 + 5 by omega] at q6
        clear hcs4 hcs'
        have HLTm : Hid (∀ y ∈ (xs.map evE).take k, ltK y.1 X) := by
          intro y hy
          rw [← List.map_take] at hy
          obtain ⟨z, hz, rfl⟩ := List.mem_map.1 hy
          exact HLT.out z hz
        rcases HTR.out with hYX | hYX
        · subst hYX
          have heq : (Yk == Yk) = true := by simp
          have HGY : Hid (Gd Ya) := by
            have h := HGL.out (evE xs[k]) (List.mem_map_of_mem (List.getElem_mem hlt))
            rw [← HY.out] at h
            exact h
          obtain ⟨M, HM⟩ := hid_ex (mrg Ya a)
          have HGM : Hid (CnOk M) := by rw [HM.out]; exact mrg_cnk HGY.out.c HG.out.c
          have HINS : Hid (ins (Yk, a) (xs.map evE) = (xs.map evE).take k ++ (Yk, M) :: (xs.map evE).drop (k + 1)) := by
            have e := ins_same (x := (Yk, a)) (L := xs.map evE) (k := k) (by rw [List.length_map]; exact hlt) HLTm.out (by rw [List.getElem_map, ← HY.out]; rfl)
            unfold Hid
            rw [e, HM.out, gd_comm HGY.out HG.out, List.getElem_map, ← HY.out]
            rfl
          have HMG : Hid (∀ W, Calls Tryz.prog 29 #[.agg #[.int .u64 Ya.c, .bool Ya.o, .int .i64 (hi Ya.s), .int .u64 (lo Ya.s), .int .i64 Ya.mn, .int .i64 Ya.mx], .agg #[.int .u64 a.c, .bool a.o, .int .i64 (hi a.s), .int .u64 (lo a.s), .int .i64 a.mn, .int .i64 a.mx]] W fun e w' => e = .returned (.agg #[.int .u64 M.c, .bool M.o, .int .i64 (hi M.s), .int .u64 (lo M.s), .int .i64 M.mn, .int .i64 M.mx]) ∧ Below W.heap.size W w') := by
            intro W
            rw [HM.out]
            exact refMerge_any Ya a HGY.out.c.1 HGY.out.c.2 HG.out.c.1 HG.out.c.2 (gd_over HGY.out) (gd_over HG.out) W
          go_quiet (fail)
          clear hq1 hq2 heq
          obtain ⟨w5, H5⟩ := hid_ex (w4.drewN nq)
          have HB45 : Hid (Below w4.heap.size w4 w5) := by rw [H5.out]; exact below_dn _ _
          have HB5 : Hid (Below w3.heap.size w3 w5) := HB4.out.trans (HB45.out.mono HB4.out.size)
          have HO5 : Hid (OwnE w5 w3.heap.size (.slice o1 k p1) (xs.take k)) := HO1.out.below HB45.out
          have HXC := (show Hid _ from box7 HX3.out)
          obtain ⟨b3, off3, eb3, hbb3, hcs3⟩ := HRC3.out.ptr (by omega)
          cases eb3
          have HQC : Hid (∀ i (h : i < 6), w3.cell? ⟨b, off + k * 7 + 1 + i, none⟩ = some ((c7 ⟨.slice ay Yk.length cy, Yk, Ya⟩)[i + 1]'(by rw [c7_len]; omega))) := by
            intro i h
            have h7 := hcs3 k hlt (i + 1) (by omega)
            rw [show off + (7 * k + (i + 1)) = off + k * 7 + 1 + i by omega] at h7
            rw [h7]
            congr 2
            rw [← HY.out]
          clear hcs3
          rw [← H5.out]
          clear H5 x0 x1 x2 x3 x4 x5 x6 q0 q1 q2 q3 q4 q5 q6 HTR
          have hkx : (k : Int) < (xs.length : Int) := by omega
          go_wp2_with fail
          refine wp_region_noPanic ?_
          refine wp_region_held_drew (S := (fun w' => Below w3.heap.size w3 w')) (by kernel_rfl) ?_ (fun hHeld => ?_)
          · exact HB5.out.drew
          refine wpAnyH_take (i := 0) (v := .slice o1 k p1) rfl (by kernel_rfl) (by kernel_rfl) (by kernel_rfl) (fun _ _ _ h => h) (Or.inl ⟨by rfl, ?_⟩) (by assumption) ?_
          · (intro w1 hSw; (try dsimp only at hSw); go_simp)
          simp only [List.getElem_toArray, List.getElem_cons_zero, Act.put, List.setIfInBounds_toArray, List.set_cons_zero, List.set_cons_succ]
          refine wpAnyH_take (i := 1) (v := .pointer (some ⟨w.heap.size, 0, none⟩)) rfl (by kernel_rfl) (by kernel_rfl) (by kernel_rfl) (fun _ _ _ h => h) (Or.inl ⟨by rfl, ?_⟩) (by assumption) ?_
          · (intro w1 hSw; (try dsimp only at hSw); go_simp)
          simp only [List.getElem_toArray, List.getElem_cons_succ, List.getElem_cons_zero, Act.put, List.setIfInBounds_toArray, List.set_cons_zero, List.set_cons_succ]
          refine wpAnyH_take (i := 2) (v := .slice ax Yk.length cx) rfl (by kernel_rfl) (by kernel_rfl) (by kernel_rfl) (fun _ _ _ h => h) (Or.inl ⟨by rfl, ?_⟩) (by assumption) ?_
          · (intro w1 hSw; (try dsimp only at hSw); have c0 := (hSw.cell (p := ⟨w.heap.size, 0, none⟩) hs3).trans HXC.out.1; go_simp)
          simp only [List.getElem_toArray, List.getElem_cons_succ, List.getElem_cons_zero, Act.put, List.setIfInBounds_toArray, List.set_cons_zero, List.set_cons_succ]
          refine wpAnyH_take (i := 3) (v := .slice (some ⟨b, off, none⟩) xs.length vc) rfl (by kernel_rfl) (by kernel_rfl) (by kernel_rfl) (fun _ _ _ h => h) (Or.inl ⟨by rfl, ?_⟩) (by assumption) ?_
          · (intro w1 hSw; (try dsimp only at hSw); go_simp)
          simp only [List.getElem_toArray, List.getElem_cons_succ, List.getElem_cons_zero, Act.put, List.setIfInBounds_toArray, List.set_cons_zero, List.set_cons_succ]
          refine wpAnyH_take (i := 4) (v := .int .i64 (k : Int)) rfl (by kernel_rfl) (by kernel_rfl) (by kernel_rfl) (fun _ _ _ h => h) (Or.inl ⟨by rfl, ?_⟩) (by assumption) ?_
          · (intro w1 hSw; (try dsimp only at hSw); go_simp)
          simp only [List.getElem_toArray, List.getElem_cons_succ, List.getElem_cons_zero, Act.put, List.setIfInBounds_toArray, List.set_cons_zero, List.set_cons_succ]
          refine wpAnyH_take (i := 5) (v := .pointer (some ⟨b, off + k * 7, none⟩)) rfl (by kernel_rfl) (by kernel_rfl) (by kernel_rfl) (fun _ _ _ h => h) (Or.inl ⟨by rfl, ?_⟩) (by assumption) ?_
          · (intro w1 hSw; (try dsimp only at hSw); go_simp)
          simp only [List.getElem_toArray, List.getElem_cons_succ, List.getElem_cons_zero, Act.put, List.setIfInBounds_toArray, List.set_cons_zero, List.set_cons_succ]
          refine wpAnyH_take (i := 6) (v := .pointer (some ⟨b, off + k * 7 + 1, none⟩)) rfl (by kernel_rfl) (by kernel_rfl) (by kernel_rfl) (fun _ _ _ h => h) (Or.inl ⟨by rfl, ?_⟩) (by assumption) ?_
          · (intro w1 hSw; (try dsimp only at hSw); go_simp)
          simp only [List.getElem_toArray, List.getElem_cons_succ, List.getElem_cons_zero, Act.put, List.setIfInBounds_toArray, List.set_cons_zero, List.set_cons_succ]
          refine wpAnyH_take (i := 7) (v := .agg #[.int .u64 Ya.c, .bool Ya.o, .int .i64 (hi Ya.s), .int .u64 (lo Ya.s), .int .i64 Ya.mn, .int .i64 Ya.mx]) rfl (by kernel_rfl) (by kernel_rfl) (by kernel_rfl) (fun _ _ _ h => h) (Or.inl ⟨by rfl, ?_⟩) (by assumption) ?_
          · (intro w1 hSw; (try dsimp only at hSw); have c1 : w1.cell? ⟨b, off + k * 7 + 1, none⟩ = some (.int .u64 Ya.c) := (hSw.cell (p := ⟨b, off + k * 7 + 1, none⟩) hbb3).trans (HQC.out 0 (by decide)); have c2 : w1.cell? ⟨b, off + k * 7 + 1 + 1, none⟩ = some (.bool Ya.o) := (hSw.cell (p := ⟨b, off + k * 7 + 1 + 1, none⟩) hbb3).trans (HQC.out 1 (by decide)); have c3 : w1.cell? ⟨b, off + k * 7 + 1 + 2, none⟩ = some (.int .i64 (hi Ya.s)) := (hSw.cell (p := ⟨b, off + k * 7 + 1 + 2, none⟩) hbb3).trans (HQC.out 2 (by decide)); have c4 : w1.cell? ⟨b, off + k * 7 + 1 + 3, none⟩ = some (.int .u64 (lo Ya.s)) := (hSw.cell (p := ⟨b, off + k * 7 + 1 + 3, none⟩) hbb3).trans (HQC.out 3 (by decide)); have c5 : w1.cell? ⟨b, off + k * 7 + 1 + 4, none⟩ = some (.int .i64 Ya.mn) := (hSw.cell (p := ⟨b, off + k * 7 + 1 + 4, none⟩) hbb3).trans (HQC.out 4 (by decide)); have c6 : w1.cell? ⟨b, off + k * 7 + 1 + 5, none⟩ = some (.int .i64 Ya.mx) := (hSw.cell (p := ⟨b, off + k * 7 + 1 + 5, none⟩) hbb3).trans (HQC.out 5 (by decide)); go_simp)
          simp only [List.getElem_toArray, List.getElem_cons_succ, List.getElem_cons_zero, Act.put, List.setIfInBounds_toArray, List.set_cons_zero, List.set_cons_succ]
          refine wpAnyH_take (i := 8) (v := .pointer (some ⟨w.heap.size, 1, none⟩)) rfl (by kernel_rfl) (by kernel_rfl) (by kernel_rfl) (fun _ _ _ h => h) (Or.inl ⟨by rfl, ?_⟩) (by assumption) ?_
          · (intro w1 hSw; (try dsimp only at hSw); go_simp)
          simp only [List.getElem_toArray, List.getElem_cons_succ, List.getElem_cons_zero, Act.put, List.setIfInBounds_toArray, List.set_cons_zero, List.set_cons_succ]
          refine wpAnyH_take (i := 9) (v := .agg #[.int .u64 a.c, .bool a.o, .int .i64 (hi a.s), .int .u64 (lo a.s), .int .i64 a.mn, .int .i64 a.mx]) rfl (by kernel_rfl) (by kernel_rfl) (by kernel_rfl) (fun _ _ _ h => h) (Or.inl ⟨by rfl, ?_⟩) (by assumption) ?_
          · (intro w1 hSw; (try dsimp only at hSw); have c1 := (hSw.cell (p := ⟨w.heap.size, 1, none⟩) hs3).trans HXC.out.2.1; have c2 := (hSw.cell (p := ⟨w.heap.size, 2, none⟩) hs3).trans HXC.out.2.2.1; have c3 := (hSw.cell (p := ⟨w.heap.size, 3, none⟩) hs3).trans HXC.out.2.2.2.1; have c4 := (hSw.cell (p := ⟨w.heap.size, 4, none⟩) hs3).trans HXC.out.2.2.2.2.1; have c5 := (hSw.cell (p := ⟨w.heap.size, 5, none⟩) hs3).trans HXC.out.2.2.2.2.2.1; have c6 := (hSw.cell (p := ⟨w.heap.size, 6, none⟩) hs3).trans HXC.out.2.2.2.2.2.2; go_simp)
          simp only [List.getElem_toArray, List.getElem_cons_succ, List.getElem_cons_zero, Act.put, List.setIfInBounds_toArray, List.set_cons_zero, List.set_cons_succ]
          refine wpAnyH_ready (rs := [10]) (by kernel_rfl) (by simp) ?_
          refine AllReadyH.cons (o := _) rfl (fun K hK => ?_) AllReadyH.nil
          go_simp
          refine (HMG.out _).mono ?_
          rintro e w6 ⟨rfl, hb6'⟩
          have hb56 : Below w5.heap.size w5 w6 := (Below.refl _ _).drew.trans hb6'
          have HB6 : Hid (Below w3.heap.size w3 w6) := HB5.out.trans (hb56.mono HB5.out.size)
          have HB46 : Hid (Below w4.heap.size w4 w6) := HB45.out.trans (hb56.mono HB45.out.size)
          have HO6 : Hid (OwnE w6 w3.heap.size (.slice o1 k p1) (xs.take k)) := HO5.out.below hb56
          clear hb6' hb56
          go_simp
          refine hK.out _ _ ?_ (fun hHeld => ?_)
          · exact HB6.out
          clear hK K
          refine wpAnyH_take (i := 11) (v := .agg #[.slice ax Yk.length cx, .int .u64 M.c, .bool M.o, .int .i64 (hi M.s), .int .u64 (lo M.s), .int .i64 M.mn, .int .i64 M.mx]) rfl (by kernel_rfl) (by kernel_rfl) (by kernel_rfl) (fun _ _ _ h => h) (Or.inl ⟨by rfl, ?_⟩) (by assumption) ?_
          · (intro w1 hSw; (try dsimp only at hSw); go_simp)
          simp only [List.getElem_toArray, List.getElem_cons_succ, List.getElem_cons_zero, Act.put, List.setIfInBounds_toArray, List.set_cons_zero, List.set_cons_succ]
          obtain ⟨v2, w7, hrun2, hown2, hb2⟩ := run_appE (w := w6.alloc (.cells #[.slice ax Yk.length cx, .int .u64 M.c, .bool M.o, .int .i64 (hi M.s), .int .u64 (lo M.s), .int .i64 M.mn, .int .i64 M.mx] 60)) w3.heap.size 25 (.slice o1 k p1) (.slice (some ⟨w6.heap.size, 0, none⟩) 1 1) (xs.take k) [⟨.slice ax Yk.length cx, Yk, M⟩] (World.ownsRow.alloc HO6.out _) new7 (fun y hy => by
            obtain rfl := List.mem_singleton.1 hy
            exact ⟨HKX.out.below (HBw3.out.trans ((HB6.out.mono HBw3.out.size).alloc (Nat.le_trans HBw3.out.size HB6.out.size) _)), HGM.out⟩) (by rw [List.length_take]; simp; omega) (by have := HB6.out.size; simp; omega)
          have HB7 : Hid (Below w3.heap.size w3 w7) := (HB6.out.alloc HB6.out.size _).trans hb2
          have hs34 : w3.heap.size ≤ w4.heap.size := HB4.out.size
          obtain ⟨o2, p2, e2, _, _⟩ := hown2.rc.form
          have hl2 : (xs.take k ++ [(⟨.slice ax Yk.length cx, Yk, M⟩ : Ev)]).length = k + 1 := by rw [List.length_append, List.length_take]; simp; omega
          rw [hl2] at e2
          subst e2
          have HO7 : Hid (OwnE w7 w3.heap.size (.slice o2 (k + 1) p2) (xs.take k ++ [(⟨.slice ax Yk.length cx, Yk, M⟩ : Ev)])) := hown2
          clear hown2 hb2
          refine wpAnyH_ready (rs := [12]) (by kernel_rfl) (by simp) ?_
          refine AllReadyH.cons (o := _) rfl (fun K hK => ?_) AllReadyH.nil
          go_simp
          refine hK.out _ _ ?_ (fun hHeld => ?_)
          · exact HB6.out.alloc HB6.out.size _
          clear hK K
          refine wpAnyH_ready (rs := [13]) (by kernel_rfl) (by simp) ?_
          refine AllReadyH.cons (o := _) rfl (fun K hK => ?_) AllReadyH.nil
          refine wp_app_runE _ _ _ _ (by rfl) (by rfl) _ _ _ (by rfl) (by rfl) hrun2 ?_
          clear hrun2
          simp only [List.getElem_toArray, List.getElem_cons_succ, List.getElem_cons_zero, Act.put, List.setIfInBounds_toArray, List.set_cons_zero, List.set_cons_succ]
          refine hK.out _ _ ?_ (fun hHeld => ?_)
          · exact HB7.out
          clear hK K
          refine wpAnyH_ready (rs := [14]) (by kernel_rfl) (by simp) ?_
          refine AllReadyH.cons (o := _) rfl (fun K hK => ?_) AllReadyH.nil
          go_simp
          refine hK.out _ _ ?_ (fun hHeld => ?_)
          · exact HB7.out
          clear hK K
          refine wpAnyH_done (by kernel_rfl) ?_ _
          refine NoPanic.normal ?_
          clear hHeld
          obtain ⟨a3, c3, hsl3, hrc3⟩ := esl_fromM (HRC3.out.below HB7.out) (c := k + 1) (by omega)
          have hev3 : EvR w7 (xs.drop (k + 1)) := fun y hy => (HEV3.out.below HB7.out) y (List.mem_of_mem_drop hy)
          obtain ⟨v3, w8, hrun3, hown3, hb3⟩ := run_appE (w := w7) w3.heap.size 25 (.slice o2 (k + 1) p2) (.slice a3 (xs.length - (k + 1)) c3) _ (xs.drop (k + 1)) HO7.out hrc3 hev3 (by rw [hl2, List.length_drop]; omega) (HB7.out.size)
          have HO8 : Hid (OwnE w8 w3.heap.size v3 (xs.take k ++ [(⟨.slice ax Yk.length cx, Yk, M⟩ : Ev)] ++ xs.drop (k + 1))) := hown3
          have HB8 : Hid (Below w3.heap.size w3 w8) := HB7.out.trans hb3
          obtain ⟨nk, Hnk⟩ := hid_ex (xs.length - (k + 1))
          rw [← Hnk.out] at hsl3 hrun3
          have ek1 : ((k + 1 : Nat) : Int) = (k : Int) + 1 := by omega
          rw [ek1] at hsl3
          clear hown3 hb3 hrc3 hev3 hl2 ek1
          go_wp2_with (at_builtin; refine wpList_app_runE rfl _ _ _ _ rfl rfl _ _ _ rfl rfl hrun3 ?_; clear hrun3 hsl3)
          go_ret
          refine ⟨_, _, rfl, own_mono HO8.out HBw3.out.size, fun y hy => ?_, ?_, HBw3.out.trans (HB8.out.mono HBw3.out.size)⟩
          · rcases List.mem_append.1 hy with hy | hy
            · rcases List.mem_append.1 hy with hy | hy
              · exact HE0.out y (List.mem_of_mem_take hy)
              · obtain rfl := List.mem_singleton.1 hy
                exact ⟨HK0.out, HGM.out⟩
            · exact HE0.out y (List.mem_of_mem_drop hy)
          · rw [HINS.out]
            have e : (xs.take k ++ [(⟨.slice ax Yk.length cx, Yk, M⟩ : Ev)] ++ xs.drop (k + 1)).map evE = (xs.map evE).take k ++ (Yk, M) :: (xs.map evE).drop (k + 1) := by
              rw [List.map_append, List.map_append, List.map_take, List.map_drop, List.append_assoc]; rfl
            exact e
        · have hne : (Yk == X) = false := beq_eq_false_iff_ne.2 (fun e => ltK_irrefl X (by rw [e] at hYX; exact hYX))
          have HINS : Hid (ins (X, a) (xs.map evE) = (xs.map evE).take k ++ (X, a) :: (xs.map evE).drop k) := by
            refine ins_new (by rw [List.length_map]; exact hlt) HLTm.out ?_
            rw [List.getElem_map, ← HY.out]; exact hYX
          clear hYX
          go_quiet (fail)
          clear hq1 hq2 q0 q1 q2 q3 q4 q5 q6 x0 x1 x2 x3 x4 x5 x6 hne
          obtain ⟨w5, H5⟩ := hid_ex (w4.drewN nq)
          have HB5 : Hid (Below w3.heap.size w3 w5) := by rw [H5.out]; exact HB4.out.trans ⟨rfl, rfl, rfl, Nat.le_refl _, fun _ _ => rfl⟩
          have HO5 : Hid (OwnE w5 w3.heap.size (.slice o1 k p1) (xs.take k)) := by rw [H5.out]; exact HO1.out.below (below_dn _ _)
          rw [← H5.out]
          clear H5 HB4 HO1
          have HX5 : Hid (w5.heap[w.heap.size]? = some (.cells #[.slice ax X.length cx, .int .u64 a.c, .bool a.o, .int .i64 (hi a.s), .int .u64 (lo a.s), .int .i64 a.mn, .int .i64 a.mx] 60)) := (HB5.out.block _ hs3).trans HX3.out
          obtain ⟨x0, x1, x2, x3, x4, x5, x6⟩ := box7 HX5.out
          obtain ⟨v2, w6, hrun2, hown2, hb2⟩ := run_appE (w := w5.alloc (.cells #[.slice ax X.length cx, .int .u64 a.c, .bool a.o, .int .i64 (hi a.s), .int .u64 (lo a.s), .int .i64 a.mn, .int .i64 a.mx] 60)) w3.heap.size 25 (.slice o1 k p1) (.slice (some ⟨w5.heap.size, 0, none⟩) 1 1) (xs.take k) [⟨.slice ax X.length cx, X, a⟩] (World.ownsRow.alloc HO5.out _) new7 (fun y hy => by
            obtain rfl := List.mem_singleton.1 hy
            exact ⟨HKX.out.below (HBw3.out.trans ((HB5.out.mono HBw3.out.size).alloc (Nat.le_trans HBw3.out.size HB5.out.size) _)), HG.out.c⟩) (by rw [List.length_take]; simp; omega) (by have := HB5.out.size; simp; omega)
          have HB6 : Hid (Below w3.heap.size w3 w6) := (HB5.out.alloc HB5.out.size _).trans hb2
          obtain ⟨o2, p2, e2, _, _⟩ := hown2.rc.form
          have hl2 : (xs.take k ++ [(⟨.slice ax X.length cx, X, a⟩ : Ev)]).length = k + 1 := by rw [List.length_append, List.length_take]; simp; omega
          rw [hl2] at e2
          subst e2
          have HO6 : Hid (OwnE w6 w3.heap.size (.slice o2 (k + 1) p2) (xs.take k ++ [(⟨.slice ax X.length cx, X, a⟩ : Ev)])) := hown2
          obtain ⟨a3, c3, hsl3, hrc3⟩ := esl_fromM (HRC3.out.below HB6.out) (c := k) hk
          have hev3 : EvR w6 (xs.drop k) := fun y hy => (HEV3.out.below HB6.out) y (List.mem_of_mem_drop hy)
          obtain ⟨v3, w7, hrun3, hown3, hb3⟩ := run_appE (w := w6) w3.heap.size 25 (.slice o2 (k + 1) p2) (.slice a3 (xs.length - k) c3) _ (xs.drop k) HO6.out hrc3 hev3 (by rw [hl2, List.length_drop]; omega) (HB6.out.size)
          have HO7 : Hid (OwnE w7 w3.heap.size v3 (xs.take k ++ [(⟨.slice ax X.length cx, X, a⟩ : Ev)] ++ xs.drop k)) := hown3
          have HB7 : Hid (Below w3.heap.size w3 w7) := HB6.out.trans hb3
          obtain ⟨nk, Hnk⟩ := hid_ex (xs.length - k)
          rw [← Hnk.out] at hsl3 hrun3
          clear hown2 hb2 hown3 hb3 hrc3 hev3 hl2
          go_wp2_with (at_builtin; first | (refine wpList_app_runE rfl _ _ _ _ rfl rfl _ _ _ rfl rfl hrun2 ?_; clear hrun2 x0 x1 x2 x3 x4 x5 x6) | (refine wpList_app_runE rfl _ _ _ _ rfl rfl _ _ _ rfl rfl hrun3 ?_; clear hrun3 hsl3))
          go_ret
          refine ⟨_, _, rfl, own_mono HO7.out HBw3.out.size, fun y hy => ?_, ?_, HBw3.out.trans (HB7.out.mono HBw3.out.size)⟩
          · rcases List.mem_append.1 hy with hy | hy
            · rcases List.mem_append.1 hy with hy | hy
              · exact HE0.out y (List.mem_of_mem_take hy)
              · obtain rfl := List.mem_singleton.1 hy
                exact ⟨HK0.out, HG.out.c⟩
            · exact HE0.out y (List.mem_of_mem_drop hy)
          · rw [HINS.out]
            have e : (xs.take k ++ [(⟨.slice ax X.length cx, X, a⟩ : Ev)] ++ xs.drop k).map evE = (xs.map evE).take k ++ (X, a) :: (xs.map evE).drop k := by
              rw [List.map_append, List.map_append, List.map_take, List.map_drop, List.append_assoc]; rfl
            rw [e]
    · skip
      have hke : k = xs.length := by omega
      have hil : decide ((k : Int) < (xs.length : Int)) = false := by simp; omega
      have HLTm : Hid (∀ y ∈ xs.map evE, ltK y.1 X) := by
        intro y hy
        obtain ⟨z, hz, rfl⟩ := List.mem_map.1 hy
        exact HLT.out z (by rw [hke, List.take_length]; exact hz)
      have HKE : Hid (k = xs.length) := hke
      clear hq2 x0 x1 x2 x3 x4 x5 x6 hke
      go_wp2_with fail
      go_quiet (fail)
      obtain ⟨w3, H3⟩ := hid_ex (wr.drewN nq)
      have HBw3 : Hid (Below w.heap.size w w3) := by rw [H3.out]; exact HBw.out.trans ⟨rfl, rfl, rfl, Nat.le_refl _, fun _ _ => rfl⟩
      have HX3 : Hid (w3.heap[w.heap.size]? = some (.cells #[.slice ax X.length cx, .int .u64 a.c, .bool a.o, .int .i64 (hi a.s), .int .u64 (lo a.s), .int .i64 a.mn, .int .i64 a.mx] 60)) := by rw [H3.out]; exact HXr.out
      have HRC3 : Hid (ERc w3 (.slice va xs.length vc) xs) := HRC.out.below HBw3.out
      have HEV3 : Hid (EvR w3 xs) := HEV.out.below HBw3.out
      have hs3 : w.heap.size < w3.heap.size := by rw [H3.out]; exact Nat.lt_of_lt_of_le hs1 HBr.out.size
      rw [← H3.out]
      clear H3
      obtain ⟨a1, c1, hsl1, hrc1⟩ := esl_uptoM HRC3.out (d := k) hk
      have hev1 : EvR w3 (xs.take k) := fun y hy => HEV3.out y (List.mem_of_mem_take hy)
      have hl1 : (xs.take k).length = k := by rw [List.length_take]; omega
      obtain ⟨v1, w4, hrun1, hown1, hb1⟩ := run_appE (w := w3) w3.heap.size 25 (.slice none 0 0) (.slice a1 k c1) [] (xs.take k) (OwnE.nil _ _) hrc1 hev1 (by simp; omega) (Nat.le_refl _)
      rw [List.nil_append] at hown1
      have HB4 : Hid (Below w3.heap.size w3 w4) := hb1
      obtain ⟨o1, p1, e1, _, _⟩ := hown1.rc.form
      rw [hl1] at e1
      subst e1
      have HO1 : Hid (OwnE w4 w3.heap.size (.slice o1 k p1) (xs.take k)) := hown1
      clear hown1 hb1 hrc1 hev1
      go_wp2_with (at_builtin; refine wpList_app_runE rfl _ _ _ _ rfl rfl _ _ _ rfl rfl hrun1 ?_; clear hrun1 hsl1)
      clear HBw HBr HXr HRx hsr
      go_quiet (fail)
      obtain ⟨w5, H5⟩ := hid_ex (w4.drewN nq)
      have HB5 : Hid (Below w3.heap.size w3 w5) := by rw [H5.out]; exact HB4.out.trans ⟨rfl, rfl, rfl, Nat.le_refl _, fun _ _ => rfl⟩
      have HO5 : Hid (OwnE w5 w3.heap.size (.slice o1 k p1) (xs.take k)) := by rw [H5.out]; exact HO1.out.below (below_dn _ _)
      rw [← H5.out]
      clear H5 HB4 HO1
      have HX5 : Hid (w5.heap[w.heap.size]? = some (.cells #[.slice ax X.length cx, .int .u64 a.c, .bool a.o, .int .i64 (hi a.s), .int .u64 (lo a.s), .int .i64 a.mn, .int .i64 a.mx] 60)) := (HB5.out.block _ hs3).trans HX3.out
      obtain ⟨x0, x1, x2, x3, x4, x5, x6⟩ := box7 HX5.out
      obtain ⟨v2, w6, hrun2, hown2, hb2⟩ := run_appE (w := w5.alloc (.cells #[.slice ax X.length cx, .int .u64 a.c, .bool a.o, .int .i64 (hi a.s), .int .u64 (lo a.s), .int .i64 a.mn, .int .i64 a.mx] 60)) w3.heap.size 25 (.slice o1 k p1) (.slice (some ⟨w5.heap.size, 0, none⟩) 1 1) (xs.take k) [⟨.slice ax X.length cx, X, a⟩] (World.ownsRow.alloc HO5.out _) new7 (fun y hy => by
        obtain rfl := List.mem_singleton.1 hy
        exact ⟨HKX.out.below (HBw3.out.trans ((HB5.out.mono HBw3.out.size).alloc (Nat.le_trans HBw3.out.size HB5.out.size) _)), HG.out.c⟩) (by rw [List.length_take]; simp; omega) (by have := HB5.out.size; simp; omega)
      have HB6 : Hid (Below w3.heap.size w3 w6) := (HB5.out.alloc HB5.out.size _).trans hb2
      obtain ⟨o2, p2, e2, _, _⟩ := hown2.rc.form
      have hl2 : (xs.take k ++ [(⟨.slice ax X.length cx, X, a⟩ : Ev)]).length = k + 1 := by rw [List.length_append, List.length_take]; simp; omega
      rw [hl2] at e2
      subst e2
      have HO6 : Hid (OwnE w6 w3.heap.size (.slice o2 (k + 1) p2) (xs.take k ++ [(⟨.slice ax X.length cx, X, a⟩ : Ev)])) := hown2
      obtain ⟨a3, c3, hsl3, hrc3⟩ := esl_fromM (HRC3.out.below HB6.out) (c := k) hk
      have hev3 : EvR w6 (xs.drop k) := fun y hy => (HEV3.out.below HB6.out) y (List.mem_of_mem_drop hy)
      obtain ⟨v3, w7, hrun3, hown3, hb3⟩ := run_appE (w := w6) w3.heap.size 25 (.slice o2 (k + 1) p2) (.slice a3 (xs.length - k) c3) _ (xs.drop k) HO6.out hrc3 hev3 (by rw [hl2, List.length_drop]; omega) (HB6.out.size)
      have HO7 : Hid (OwnE w7 w3.heap.size v3 (xs.take k ++ [(⟨.slice ax X.length cx, X, a⟩ : Ev)] ++ xs.drop k)) := hown3
      have HB7 : Hid (Below w3.heap.size w3 w7) := HB6.out.trans hb3
      obtain ⟨nk, Hnk⟩ := hid_ex (xs.length - k)
      rw [← Hnk.out] at hsl3 hrun3
      clear hown2 hb2 hown3 hb3 hrc3 hev3 hl2
      go_wp2_with (at_builtin; first | (refine wpList_app_runE rfl _ _ _ _ rfl rfl _ _ _ rfl rfl hrun2 ?_; clear hrun2 x0 x1 x2 x3 x4 x5 x6) | (refine wpList_app_runE rfl _ _ _ _ rfl rfl _ _ _ rfl rfl hrun3 ?_; clear hrun3 hsl3))
      go_ret
      refine ⟨_, _, rfl, own_mono HO7.out HBw3.out.size, fun y hy => ?_, ?_, HBw3.out.trans (HB7.out.mono HBw3.out.size)⟩
      · rcases List.mem_append.1 hy with hy | hy
        · rcases List.mem_append.1 hy with hy | hy
          · exact HE0.out y (List.mem_of_mem_take hy)
          · obtain rfl := List.mem_singleton.1 hy
            exact ⟨HK0.out, HG.out.c⟩
        · exact HE0.out y (List.mem_of_mem_drop hy)
      · rw [ins_behind (X, a) (xs.map evE) HLTm.out]
        have e : (xs.take k ++ [(⟨.slice ax X.length cx, X, a⟩ : Ev)] ++ xs.drop k).map evE = (xs.map evE).take k ++ (X, a) :: (xs.map evE).drop k := by
          rw [List.map_append, List.map_append, List.map_take, List.map_drop, List.append_assoc]; rfl
        rw [e]
        rw [HKE.out]
        rw [List.take_of_length_le (by simp), List.drop_eq_nil_of_le (by simp)]
end Go.Proofs.YtoenijflijfogaaGreat

/- The contract of the reference's Fold (layer 15). -/
namespace Go.Proofs.YtoenijflijfogaaGreat
open Go.RowKit

/-- What is known of an entry that fits. -/
theorem fit_at {R : Rl} {x : En} (h : FitE R x) : ∃ D f, ∃ g : Nat, rdF x.1 = some (D, f, (g : Int)) ∧ Beg R f g ∧ ∀ wm, fk R wm x.1 = if goneB R wm f then none else some (kb D (flq R wm f g) ((stq R wm f g : Nat) : Int)) := by
  obtain ⟨D, f, g, hr, hb⟩ := h.k
  obtain ⟨_, _, _, h4, _⟩ := rdF_key hr
  have e : ((g.toNat : Nat) : Int) = g := by omega
  exact ⟨D, f, g.toNat, by rw [e]; exact hr, hb, fun wm => fk_of hr⟩
set_option maxRecDepth 100000 in
set_option maxHeartbeats 4000000 in
theorem refFold_any (R : Rl) (wm : Int) (v : Value) (L : List En) (w : World) (hL : Lies R w.heap.size w) (hE : EReads w v L) (hl : L.length ≤ 100000) (hk : ∀ x ∈ L, x.1.length ≤ 1000) :
    Calls Tryz.prog 53 #[.agg #[.slice R.a R.len R.cap, .int .i64 R.kp], .int .i64 wm, v] w (FoPost R wm L w) := by
  have HE : Hid (EReads w v L) := hE
  have HL : Hid (Lies R w.heap.size w) := hL
  have HK : Hid (∀ x ∈ L, x.1.length ≤ 1000) := hk
  obtain ⟨a, cap, rfl, hm1, hm2⟩ := hE.form
  unfold maxLen at hm2
  clear hE hL hk
  obtain ⟨w1, HW1⟩ := hid_ex (w.alloc (.cells #[.slice R.a R.len R.cap, .int .i64 R.kp] 24))
  have HB1 : Hid (Below w.heap.size w w1) := by rw [HW1.out]; exact new_below _ _
  have HX1 : Hid (RBox R w.heap.size w1) := by rw [HW1.out]; exact RBox.new R w _
  go_enter Tryz.func53, Tryz.ntmps53
  go_wp2_with fail
  rw [← HW1.out]
  clear HW1
  refine (refCheck_any R wm _ L _ (HL.out.at HB1.out) (HE.out.below HB1.out) hl HK.out).mono ?_
  rintro e w2 ⟨rfl, hb2⟩
  have HB2 : Hid (Below w.heap.size w w2) := HB1.out.trans (hb2.mono HB1.out.size)
  have HX2 : Hid (RBox R w.heap.size w2) := HX1.out.below hb2
  clear hb2 HX1 HB1
  by_cases hc : chkF R wm L = 0
  · have HC : Hid (chkF R wm L = 0) := hc
    obtain ⟨_, hR, hT, hS, hFt⟩ := chkF_ok hc
    have HR : Hid (RightP R) := hR
    have HT : Hid (isT wm = true) := hT
    have HFt : Hid (FitL R L) := hFt
    have HGd : Hid (GdE L) := fit_gd hFt HE.out.ok
    rw [hc]
    clear hc hR hT hS hFt
    go_wp2_with fail
    go_loopw [9, 10] (fun o i wr => ∃ (k : Nat) (ys : List Ev), k ≤ L.length ∧ i = .int .i64 (k : Int) ∧ Hid (OwnE wr w2.heap.size o ys) ∧ Hid (EvR wr ys) ∧ Hid (ys.map evE = foldF R wm (L.take k)) ∧ Hid (Below w2.heap.size w2 wr)) (fun _ i _ => L.length - (intOf i).toNat)
    case atStart => exact ⟨0, [], by omega, rfl, OwnE.nil _ _, (fun x hx => by cases hx), by show _ = _; rw [List.take_zero]; rfl, Below.refl _ _⟩
    case round =>
      obtain ⟨k, ys, hk, rfl, HO, HV, HM, HW⟩ := hrel
      have HBr : Hid (Below w.heap.size w wr) := HB2.out.trans (HW.out.mono HB2.out.size)
      have HXr : Hid (RBox R w.heap.size wr) := HX2.out.below HW.out
      obtain ⟨oa, oc, rfl, _⟩ := HO.out.rc.form
      by_cases hlt : k < L.length
      · obtain ⟨b, off, cap', hv, hbw⟩ := eReads_some HE.out (by omega)
        simp at hv
        obtain ⟨rfl, rfl⟩ := hv
        obtain ⟨kv, hcw, hRw, _⟩ := eReads_at HE.out hlt rfl
        have hkl : L[k].1.length ≤ 1000 := HK.out L[k] (List.getElem_mem hlt)
        have HGx : Hid (Gd L[k].2) := HGd.out _ (List.getElem_mem hlt)
        have HSN : Hid (foldF R wm (L.take (k + 1)) = match fk R wm L[k].1 with | none => foldF R wm (L.take k) | some K => ins (K, L[k].2) (foldF R wm (L.take k))) := by
          unfold Hid
          rw [List.take_succ_eq_append_getElem hlt]
          exact foldF_snoc (fun y hy => HGd.out y (List.mem_of_mem_take hy)) (HGd.out _ (List.getElem_mem hlt))
        obtain ⟨D, f, g, hrd, hbeg, hfk0⟩ := fit_at (HFt.out _ (List.getElem_mem hlt))
        have hfk := hfk0 wm
        obtain ⟨X, HX⟩ := hid_ex L[k]
        rw [← HX.out] at hcw hRw hkl HGx HSN hrd hfk
        obtain ⟨Xk, Xa⟩ := X
        simp only at hkl hRw hrd hfk HSN HGx
        rw [hfk] at HSN
        have HRD : Hid (rdF Xk = some (D, f, (g : Int))) := hrd
        have HBE : Hid (Beg R f g) := hbeg
        have HRX : Hid (Reads wr kv Xk) := hRw.below HBr.out
        obtain ⟨ak, ck, rfl, _⟩ := HRX.out.form
        have HC0 : Hid (∀ i (hi : i < 7), wr.cell? ⟨b, off + k * 7 + i, none⟩ = some ((c7 ⟨.slice ak Xk.length ck, Xk, Xa⟩)[i]'hi)) := fun i hi => (HBr.out.cell (p := ⟨b, off + k * 7 + i, none⟩) hbw).trans (hcw i hi)
        have HBL : Hid (b < wr.heap.size) := Nat.lt_of_lt_of_le hbw HBr.out.size
        have HLr : Hid (∀ W, Below wr.heap.size wr W → Lies R W.heap.size W) := fun W hW => HL.out.at (HBr.out.trans (hW.mono HBr.out.size))
        have hkn : ¬ L.length ≤ k := by omega
        have hki : (k : Int) < (L.length : Int) := by omega
        obtain ⟨gn, Hgn⟩ := hid_ex (goneB R wm f)
        obtain ⟨K3, HK3⟩ := hid_ex (kb D (flq R wm f g) ((stq R wm f g : Nat) : Int))
        rw [← Hgn.out, ← HK3.out] at HSN
        have HKY : Hid (∀ W, Below wr.heap.size wr W → Calls Tryz.prog 69 #[.agg #[.slice R.a R.len R.cap, .int .i64 R.kp], .int .i64 wm, .slice ak Xk.length ck] W fun e w' => ∃ v', e = .returned (.tuple #[v', .bool (!gn)]) ∧ Own w' W.heap.size v' K3 ∧ Below W.heap.size W w') := fun W hW => by
          have h9 := refKey_any R HR.out wm HT.out (.slice ak Xk.length ck) Xk D f g HRD.out HBE.out W (HLr.out W hW) (HRX.out.below hW) hkl
          rw [← Hgn.out, ← HK3.out] at h9
          exact h9
        clear hcw hRw hrd hbeg hfk hfk0 hbw HX Hgn HK3
        go_wp2_with fail
        refine wp_region_noPanic ?_
        refine wp_region_held_drew (S := (fun w' => Below wr.heap.size wr w')) (by kernel_rfl) ?_ (fun hHeld => ?_)
        · exact (Below.refl _ _).drew
        refine wpAnyH_take (i := 0) (v := .agg #[.slice R.a R.len R.cap, .int .i64 R.kp]) rfl (by kernel_rfl) (by kernel_rfl) (by kernel_rfl) (fun _ _ _ h => h) (Or.inl ⟨by rfl, ?_⟩) (by assumption) ?_
        · (intro w1 hSw; (try dsimp only at hSw); obtain ⟨r0, r1⟩ := (HXr.out.below hSw).at; go_simp)
        simp only [List.getElem_toArray, List.getElem_cons_zero, Act.put, List.setIfInBounds_toArray, List.set_cons_zero, List.set_cons_succ]
        refine wpAnyH_take (i := 1) (v := .int .i64 wm) rfl (by kernel_rfl) (by kernel_rfl) (by kernel_rfl) (fun _ _ _ h => h) (Or.inl ⟨by rfl, ?_⟩) (by assumption) ?_
        · (intro w1 hSw; (try dsimp only at hSw); go_simp)
        simp only [List.getElem_toArray, List.getElem_cons_succ, List.getElem_cons_zero, Act.put, List.setIfInBounds_toArray, List.set_cons_zero, List.set_cons_succ]
        refine wpAnyH_take (i := 2) (v := .slice (some ⟨b, off, none⟩) L.length cap) rfl (by kernel_rfl) (by kernel_rfl) (by kernel_rfl) (fun _ _ _ h => h) (Or.inl ⟨by rfl, ?_⟩) (by assumption) ?_
        · (intro w1 hSw; (try dsimp only at hSw); go_simp)
        simp only [List.getElem_toArray, List.getElem_cons_succ, List.getElem_cons_zero, Act.put, List.setIfInBounds_toArray, List.set_cons_zero, List.set_cons_succ]
        refine wpAnyH_take (i := 3) (v := .int .i64 (k : Int)) rfl (by kernel_rfl) (by kernel_rfl) (by kernel_rfl) (fun _ _ _ h => h) (Or.inl ⟨by rfl, ?_⟩) (by assumption) ?_
        · (intro w1 hSw; (try dsimp only at hSw); go_simp)
        simp only [List.getElem_toArray, List.getElem_cons_succ, List.getElem_cons_zero, Act.put, List.setIfInBounds_toArray, List.set_cons_zero, List.set_cons_succ]
        refine wpAnyH_take (i := 4) (v := .pointer (some ⟨b, off + k * 7, none⟩)) rfl (by kernel_rfl) (by kernel_rfl) (by kernel_rfl) (fun _ _ _ h => h) (Or.inl ⟨by rfl, ?_⟩) (by assumption) ?_
        · (intro w1 hSw; (try dsimp only at hSw); go_simp)
        simp only [List.getElem_toArray, List.getElem_cons_succ, List.getElem_cons_zero, Act.put, List.setIfInBounds_toArray, List.set_cons_zero, List.set_cons_succ]
        refine wpAnyH_take (i := 5) (v := .pointer (some ⟨b, off + k * 7, none⟩)) rfl (by kernel_rfl) (by kernel_rfl) (by kernel_rfl) (fun _ _ _ h => h) (Or.inl ⟨by rfl, ?_⟩) (by assumption) ?_
        · (intro w1 hSw; (try dsimp only at hSw); go_simp)
        simp only [List.getElem_toArray, List.getElem_cons_succ, List.getElem_cons_zero, Act.put, List.setIfInBounds_toArray, List.set_cons_zero, List.set_cons_succ]
        refine wpAnyH_take (i := 6) (v := .slice ak Xk.length ck) rfl (by kernel_rfl) (by kernel_rfl) (by kernel_rfl) (fun _ _ _ h => h) (Or.inl ⟨by rfl, ?_⟩) (by assumption) ?_
        · (intro w1 hSw; (try dsimp only at hSw); have h1 := (hSw.cell (p := ⟨b, off + k * 7, none⟩) HBL.out).trans (HC0.out 0 (by decide)); simp only [c7, List.getElem_cons_zero] at h1; go_simp)
        simp only [List.getElem_toArray, List.getElem_cons_succ, List.getElem_cons_zero, Act.put, List.setIfInBounds_toArray, List.set_cons_zero, List.set_cons_succ]
        refine wpAnyH_ready (rs := [7]) (by kernel_rfl) (by simp) ?_
        refine AllReadyH.cons (o := _) rfl (fun K hK => ?_) AllReadyH.nil
        go_simp
        refine (HKY.out _ (Below.refl _ _).drew).mono ?_
        rintro e w3 ⟨v3, rfl, ho3, hb3⟩
        have HW3 : Hid (Below wr.heap.size wr w3) := (Below.refl wr.heap.size wr).drew.trans hb3
        have HR3 : Hid (Reads w3 v3 K3) := ho3.reads
        obtain ⟨a3, c3, rfl, _⟩ := HR3.out.form
        clear hb3 ho3
        refine hK.out _ _ ?_ (fun hHeld => ?_)
        · exact HW3.out
        clear hK K
        refine wpAnyH_take (i := 8) (v := .tuple #[.slice a3 K3.length c3, .bool (!gn)]) rfl (by kernel_rfl) (by kernel_rfl) (by kernel_rfl) (fun _ _ _ h => h) (Or.inl ⟨by rfl, ?_⟩) (by assumption) ?_
        · (intro w1 hSw; (try dsimp only at hSw); go_simp)
        simp only [List.getElem_toArray, List.getElem_cons_succ, List.getElem_cons_zero, Act.put, List.setIfInBounds_toArray, List.set_cons_zero, List.set_cons_succ]
        refine wpAnyH_take (i := 9) (v := .slice a3 K3.length c3) rfl (by kernel_rfl) (by kernel_rfl) (by kernel_rfl) (fun _ _ _ h => h) (Or.inl ⟨by rfl, ?_⟩) (by assumption) ?_
        · (intro w1 hSw; (try dsimp only at hSw); go_simp)
        simp only [List.getElem_toArray, List.getElem_cons_succ, List.getElem_cons_zero, Act.put, List.setIfInBounds_toArray, List.set_cons_zero, List.set_cons_succ]
        refine wpAnyH_take (i := 10) (v := .bool (!gn)) rfl (by kernel_rfl) (by kernel_rfl) (by kernel_rfl) (fun _ _ _ h => h) (Or.inl ⟨by rfl, ?_⟩) (by assumption) ?_
        · (intro w1 hSw; (try dsimp only at hSw); go_simp)
        simp only [List.getElem_toArray, List.getElem_cons_succ, List.getElem_cons_zero, Act.put, List.setIfInBounds_toArray, List.set_cons_zero, List.set_cons_succ]
        refine wpAnyH_take (i := 11) (v := .slice a3 K3.length c3) rfl (by kernel_rfl) (by kernel_rfl) (by kernel_rfl) (fun _ _ _ h => h) (Or.inl ⟨by rfl, ?_⟩) (by assumption) ?_
        · (intro w1 hSw; (try dsimp only at hSw); go_simp)
        simp only [List.getElem_toArray, List.getElem_cons_succ, List.getElem_cons_zero, Act.put, List.setIfInBounds_toArray, List.set_cons_zero, List.set_cons_succ]
        refine wpAnyH_take (i := 12) (v := .bool (!gn)) rfl (by kernel_rfl) (by kernel_rfl) (by kernel_rfl) (fun _ _ _ h => h) (Or.inl ⟨by rfl, ?_⟩) (by assumption) ?_
        · (intro w1 hSw; (try dsimp only at hSw); go_simp)
        simp only [List.getElem_toArray, List.getElem_cons_succ, List.getElem_cons_zero, Act.put, List.setIfInBounds_toArray, List.set_cons_zero, List.set_cons_succ]
        clear hHeld
        refine wpAnyH_done (by kernel_rfl) ?_ _
        refine NoPanic.normal ?_
        have HB3 : Hid (Below w2.heap.size w2 w3) := HW.out.trans (HW3.out.mono HW.out.size)
        have HO3 : Hid (OwnE w3 w2.heap.size (.slice oa ys.length oc) ys) := HO.out.below HW3.out
        have HV3 : Hid (EvR w3 ys) := HV.out.below HW3.out
        clear HO HV
        cases gn with
        | true =>
          have HM3 : Hid (ys.map evE = foldF R wm (L.take (k + 1))) := by unfold Hid; rw [HSN.out, HM.out]; rfl
          go_wp2_with fail
          go_roundw
          case rel => exact ⟨k + 1, ys, by omega, by go_num, HO3.out, HV3.out, HM3.out, HB3.out⟩
          case measure => simp [intOf]; omega
        | false =>
          have HM3 : Hid (foldF R wm (L.take (k + 1)) = ins (K3, Xa) (ys.map evE)) := by unfold Hid; rw [HSN.out, HM.out]; rfl
          have HGY : Hid (GdE (ys.map evE)) := by unfold Hid; rw [HM.out]; exact foldF_gd (fun y hy => HGd.out y (List.mem_of_mem_take hy))
          have HYL : Hid (ys.length ≤ 100000000) := by
            unfold Hid
            rw [← List.length_map (f := evE), HM.out]
            have h1 := foldF_len R wm (L.take k)
            have h2 := List.length_take_le k L
            omega
          have hbl : b < wr.heap.size := HBL.out
          have c1 : w3.cell? ⟨b, off + k * 7 + 1, none⟩ = some (.int .u64 Xa.c) := (HW3.out.cell (p := ⟨b, off + k * 7 + 1, none⟩) hbl).trans (HC0.out 1 (by decide))
          have c2 : w3.cell? ⟨b, off + k * 7 + 1 + 1, none⟩ = some (.bool Xa.o) := (HW3.out.cell (p := ⟨b, off + k * 7 + 2, none⟩) hbl).trans (HC0.out 2 (by decide))
          have c3' : w3.cell? ⟨b, off + k * 7 + 1 + 2, none⟩ = some (.int .i64 (hi Xa.s)) := (HW3.out.cell (p := ⟨b, off + k * 7 + 3, none⟩) hbl).trans (HC0.out 3 (by decide))
          have c4 : w3.cell? ⟨b, off + k * 7 + 1 + 3, none⟩ = some (.int .u64 (lo Xa.s)) := (HW3.out.cell (p := ⟨b, off + k * 7 + 4, none⟩) hbl).trans (HC0.out 4 (by decide))
          have c5 : w3.cell? ⟨b, off + k * 7 + 1 + 4, none⟩ = some (.int .i64 Xa.mn) := (HW3.out.cell (p := ⟨b, off + k * 7 + 5, none⟩) hbl).trans (HC0.out 5 (by decide))
          have c6 : w3.cell? ⟨b, off + k * 7 + 1 + 5, none⟩ = some (.int .i64 Xa.mx) := (HW3.out.cell (p := ⟨b, off + k * 7 + 6, none⟩) hbl).trans (HC0.out 6 (by decide))
          clear hbl HSN HM
          go_wp2_with fail
          refine (refPut_own w3 _ ys _ K3 Xa _ (Below.refl _ _) HO3.out.rc HV3.out HR3.out HGx.out HGY.out HYL.out).mono ?_
          rintro e w4 ⟨v4, zs, rfl, hO4, hE4, hm4, hb4⟩
          have HO4 : Hid (OwnE w4 w2.heap.size v4 zs) := own_mono hO4 HB3.out.size
          have HE4 : Hid (EvR w4 zs) := hE4.below hb4
          have HM4 : Hid (zs.map evE = foldF R wm (L.take (k + 1))) := by unfold Hid; rw [HM3.out]; exact hm4
          have HB4 : Hid (Below w2.heap.size w2 w4) := HB3.out.trans (hb4.mono HB3.out.size)
          clear hO4 hE4 hm4 hb4 c1 c2 c3' c4 c5 c6
          go_wp2_with fail
          go_roundw
          case rel => exact ⟨k + 1, zs, by omega, by go_num, HO4.out, HE4.out, HM4.out, HB4.out⟩
          case measure => simp [intOf]; omega
      · have HEnd : Hid (FoPost R wm L w (.returned (.tuple #[.slice oa ys.length oc, .int .i64 0])) wr) := by
          refine ⟨HBr.out, .inr ⟨HC.out, _, rfl, ?_⟩⟩
          have h9 := HO.out.rc.reads HV.out
          rw [HM.out, List.take_of_length_le (by omega)] at h9
          exact h9
        go_wp2_with fail
        go_ret2
        exact HEnd.out
  · have hb0 : (chkF R wm L == 0) = false := by simp [hc]
    have HEnd : Hid (FoPost R wm L w (.returned (.tuple #[.slice none 0 0, .int .i64 (chkF R wm L)])) w2) := ⟨HB2.out, .inl ⟨hc, rfl⟩⟩
    obtain ⟨E, HEE⟩ := hid_ex (chkF R wm L)
    rw [← HEE.out] at hb0 hc HEnd ⊢
    go_wp2_with fail
    go_ret2
    exact HEnd.out
end Go.Proofs.YtoenijflijfogaaGreat

/- The contracts of the reference's May (layer 12) and Entries (layer 15). -/
namespace Go.Proofs.YtoenijflijfogaaGreat
open Go.RowKit

/-- What Entries makes. -/
def enF (R : Rl) (fs : List Fa) : List En := can (fs.map (fcE R))
theorem en_gd (R : Rl) (fs : List Fa) : GdE (fs.map (fcE R)) := fun y hy => by
  obtain ⟨f, _, rfl⟩ := List.mem_map.1 hy
  exact oneF_gd f.x
theorem enF_snoc (R : Rl) (fs : List Fa) (f : Fa) : enF R (fs ++ [f]) = ins (fcE R f) (enF R fs) := by
  unfold enF
  rw [List.map_append, List.map_cons, List.map_nil]
  have hp : (fs.map (fcE R) ++ [fcE R f]).Perm (fcE R f :: fs.map (fcE R)) := List.perm_append_comm (l₁ := fs.map (fcE R)) (l₂ := [fcE R f])
  rw [can_perm hp (GdE.app.2 ⟨en_gd R fs, fun y hy => by simp at hy; rw [hy]; exact oneF_gd f.x⟩)]
  rfl
theorem enF_len (R : Rl) (fs : List Fa) : (enF R fs).length ≤ fs.length := by
  have := can_len (fs.map (fcE R))
  unfold enF
  simpa using this
theorem floor_fact {R : Rl} (hR : RightP R) {t : Int} (ht : isT t = true) : floorV t (R.sz 0) = .tuple #[.int .i64 (t - t % R.sz 0), .int .i64 0] := by
  have h4 : isT t && isS (R.sz 0) := by rw [ht, sz_ok hR (i := 0) (by have := hR.1; omega)]; rfl
  unfold floorV
  rw [if_pos h4, if_pos h4]
set_option maxRecDepth 100000 in
set_option maxHeartbeats 4000000 in
theorem refEntries_any (R : Rl) (hR : RightP R) (v : Value) (fs : List Fa) (w : World) (hL : Lies R w.heap.size w) (hF : FReads w v fs) (hl : fs.length ≤ 100000) (hm : ∀ f ∈ fs, mayF f = true) :
    Calls Tryz.prog 21 #[.agg #[.slice R.a R.len R.cap, .int .i64 R.kp], v] w fun e w' => ∃ v', e = .returned v' ∧ EReads w' v' (enF R fs) ∧ Below w.heap.size w w' := by
  have HF : Hid (FReads w v fs) := hF
  have HL : Hid (Lies R w.heap.size w) := hL
  have HR : Hid (RightP R) := hR
  have HMy : Hid (∀ f ∈ fs, mayF f = true) := hm
  have hrl : 0 < R.len := by have := hR.1; omega
  obtain ⟨a, cap, rfl, hm1, hm2⟩ := hF.form
  unfold maxLen at hm2
  clear hF hL hR hm
  obtain ⟨w1, HW1⟩ := hid_ex (w.alloc (.cells #[.slice R.a R.len R.cap, .int .i64 R.kp] 24))
  have HB1 : Hid (Below w.heap.size w w1) := by rw [HW1.out]; exact new_below _ _
  have HX1 : Hid (RBox R w.heap.size w1) := by rw [HW1.out]; exact RBox.new R w _
  obtain ⟨rb, ro, ha, hrb, hsz0⟩ := HL.out.sz hrl
  have HRA : Hid (R.a = some ⟨rb, ro, none⟩) := ha
  obtain ⟨ra, Hra⟩ := hid_ex R.a
  rw [← Hra.out] at HW1 ⊢
  rw [← Hra.out] at ha
  subst ha
  have HSZ : Hid (w.cell? ⟨rb, ro, none⟩ = some (.int .i64 (R.sz 0))) := by have := hsz0; rw [Nat.zero_mul, Nat.add_zero] at this; exact this
  have HRB : Hid (rb < w.heap.size) := hrb
  clear hsz0 hrb
  go_enter Tryz.func21, Tryz.ntmps21
  go_wp2_with fail
  rw [← HW1.out]
  clear HW1
  go_loopw [5, 6] (fun o i wr => ∃ (k : Nat) (ys : List Ev), k ≤ fs.length ∧ i = .int .i64 (k : Int) ∧ Hid (OwnE wr w1.heap.size o ys) ∧ Hid (EvR wr ys) ∧ Hid (ys.map evE = enF R (fs.take k)) ∧ Hid (Below w1.heap.size w1 wr)) (fun _ i _ => fs.length - (intOf i).toNat)
  case atStart => exact ⟨0, [], by omega, rfl, OwnE.nil _ _, (fun x hx => by cases hx), by show _ = _; rw [List.take_zero]; rfl, Below.refl _ _⟩
  case round =>
    obtain ⟨k, ys, hk, rfl, HO, HV, HM, HW⟩ := hrel
    have HBr : Hid (Below w.heap.size w wr) := HB1.out.trans (HW.out.mono HB1.out.size)
    have HXr : Hid (RBox R w.heap.size wr) := HX1.out.below HW.out
    obtain ⟨oa, oc, rfl, _⟩ := HO.out.rc.form
    by_cases hlt : k < fs.length
    · obtain ⟨b, off, hv, hbw, hcw, hsr, hfb⟩ := FReads.at HF.out hlt
      subst hv
      have HSN : Hid (enF R (fs.take (k + 1)) = ins (fcE R fs[k]) (enF R (fs.take k))) := by
        unfold Hid
        rw [List.take_succ_eq_append_getElem hlt]
        exact enF_snoc R _ _
      have hmy : mayF fs[k] = true := HMy.out _ (List.getElem_mem hlt)
      obtain ⟨X, HX⟩ := hid_ex fs[k]
      rw [← HX.out] at hcw hsr hfb HSN hmy
      obtain ⟨Xv, D, t, x⟩ := X
      simp only at hsr
      unfold mayF at hmy
      simp only [Bool.and_eq_true] at hmy
      have hfl := floor0 HR.out hmy.1
      have HFV : Hid (floorV t (R.sz 0) = .tuple #[.int .i64 (t - t % R.sz 0), .int .i64 0]) := floor_fact HR.out hmy.1
      have HRT : Hid (rightBK D (t - t % R.sz 0) 0 = true) := by
        unfold Hid rightBK
        rw [hmy.2, Bool.true_and, decide_eq_true_eq]
        omega
      have HFC : Hid (fcE R ⟨Xv, D, t, x⟩ = (kb D (t - t % R.sz 0) 0, oneF x)) := rfl
      rw [HFC.out] at HSN
      have hx1 := hfb.x1
      have hx2 := hfb.x2
      simp only at hx1 hx2
      have HSR : Hid (SReads w Xv D) := hsr
      obtain ⟨va, vc, rfl, _⟩ := hsr.form
      obtain ⟨s, Hs⟩ := hid_ex (R.sz 0)
      rw [← Hs.out] at HFV HSZ
      obtain ⟨fl, Hfl⟩ := hid_ex (t - t % s)
      rw [Hs.out] at Hfl
      rw [← Hfl.out] at HRT HSN hfl
      rw [Hs.out, ← Hfl.out, ← Hs.out] at HFV
      obtain ⟨kk, Hkk⟩ := hid_ex (kb D fl 0)
      rw [← Hkk.out] at HSN
      obtain ⟨dn, Hdn⟩ := hid_ex D.length
      rw [← Hdn.out] at HSR hcw
      have c0 : wr.cell? ⟨b, off + k * 3, none⟩ = some (.slice va dn vc) := (HBr.out.cell (p := ⟨b, off + k * 3, none⟩) hbw).trans (hcw 0 (by decide))
      have c1 : wr.cell? ⟨b, off + k * 3 + 1, none⟩ = some (.int .i64 t) := (HBr.out.cell (p := ⟨b, off + k * 3 + 1, none⟩) hbw).trans (hcw 1 (by decide))
      have c2 : w.cell? ⟨b, off + k * 3 + 2, none⟩ = some (.int .i64 x) := hcw 2 (by decide)
      have HC2 : Hid (w.cell? ⟨b, off + k * 3 + 2, none⟩ = some (.int .i64 x)) := c2
      have HBW : Hid (b < w.heap.size) := hbw
      have hsz : wr.cell? ⟨rb, ro, none⟩ = some (.int .i64 s) := (HBr.out.cell (p := ⟨rb, ro, none⟩) HRB.out).trans HSZ.out
      obtain ⟨r0, r1⟩ := HXr.out.at
      rw [HRA.out] at r0
      clear hcw hsr hfb hmy HX Hs Hfl Hdn c2 hbw r1
      go_wp2_with fail
      go_quiet (exact (refFloor_any t s _).mono (fun e w h => ⟨by rw [h.1, HFV.out], _, h.2⟩))
      obtain ⟨w3, HW3⟩ := hid_ex (wr.drewN nq)
      have hb3 : Below wr.heap.size wr w3 := by rw [HW3.out]; exact below_drewN (Below.refl _ _) nq
      have HB3 : Hid (Below wr.heap.size wr w3) := hb3
      have j0 : w3.cell? ⟨b, off + k * 3, none⟩ = some (.slice va dn vc) := by rw [HW3.out]; exact c0
      rw [← HW3.out]
      clear c0 c1 r0 hsz hb3 HW3
      go_wp2_with fail
      refine (refWrite_yes ⟨.slice va dn vc, D, fl, 0⟩ HRT.out _ ⟨(HSR.out.below HBr.out).below HB3.out, by simp only; omega, by simp only; omega, by simp only; omega, by simp only; omega⟩).mono ?_
      rintro e w4 ⟨v4, rfl, ho4, hb4⟩
      have hb4' : Below wr.heap.size wr w4 := HB3.out.trans (hb4.mono HB3.out.size)
      have HB4 : Hid (Below wr.heap.size wr w4) := hb4'
      have HBw4 : Hid (Below w.heap.size w w4) := HBr.out.trans (hb4'.mono HBr.out.size)
      have HR4 : Hid (Reads w4 v4 kk) := by rw [Hkk.out]; exact ho4.reads
      obtain ⟨a4, c4, rfl, _⟩ := HR4.out.form
      have j2 : w4.cell? ⟨b, off + k * 3 + 2, none⟩ = some (.int .i64 x) := (HBw4.out.cell (p := ⟨b, off + k * 3 + 2, none⟩) HBW.out).trans HC2.out
      clear ho4 hb4 hb4' j0
      go_wp2_with fail
      refine (refOne_any x hx1 hx2 _).mono ?_
      rintro e w5 ⟨rfl, hb5⟩
      have HGO : Hid (Gd (oneF x)) := oneF_gd x
      obtain ⟨O, HOn⟩ := hid_ex (oneF x)
      rw [← HOn.out] at HGO HSN ⊢
      have HB5 : Hid (Below wr.heap.size wr w5) := HB4.out.trans (hb5.mono HB4.out.size)
      have HR5 : Hid (Reads w5 (.slice a4 kk.length c4) kk) := HR4.out.below hb5
      have HO5 : Hid (OwnE w5 w1.heap.size (.slice oa ys.length oc) ys) := HO.out.below HB5.out
      have HV5 : Hid (EvR w5 ys) := HV.out.below HB5.out
      have HM5 : Hid (enF R (fs.take (k + 1)) = ins (kk, O) (ys.map evE)) := by unfold Hid; rw [HSN.out, HM.out]
      have HGY : Hid (GdE (ys.map evE)) := by unfold Hid; rw [HM.out]; exact can_gd (en_gd R _)
      have HYL : Hid (ys.length ≤ 100000000) := by
        unfold Hid
        rw [← List.length_map (f := evE), HM.out]
        have h1 := enF_len R (fs.take k)
        have h2 := List.length_take_le k fs
        omega
      have HBw5 : Hid (Below w1.heap.size w1 w5) := HW.out.trans (HB5.out.mono HW.out.size)
      clear hb5 j2 HOn HSN HM HO HV
      go_wp2_with fail
      refine (refPut_own w5 _ ys _ kk O _ (Below.refl _ _) HO5.out.rc HV5.out HR5.out HGO.out HGY.out HYL.out).mono ?_
      rintro e w6 ⟨v6, zs, rfl, hO6, hE6, hm6, hb6⟩
      have HO6 : Hid (OwnE w6 w1.heap.size v6 zs) := own_mono hO6 HBw5.out.size
      have HE6 : Hid (EvR w6 zs) := hE6.below hb6
      have HM6 : Hid (zs.map evE = enF R (fs.take (k + 1))) := by unfold Hid; rw [HM5.out]; exact hm6
      have HB6 : Hid (Below w1.heap.size w1 w6) := HBw5.out.trans (hb6.mono HBw5.out.size)
      clear hO6 hE6 hm6 hb6
      go_wp2_with fail
      go_roundw
      case rel => exact ⟨k + 1, zs, by omega, by go_num, HO6.out, HE6.out, HM6.out, HB6.out⟩
      case measure => simp [intOf]; omega
    · have HEnd : Hid (EReads wr (.slice oa ys.length oc) (enF R fs)) := by
        have h9 := HO.out.rc.reads HV.out
        rw [HM.out, List.take_of_length_le (by omega)] at h9
        exact h9
      go_wp2_with fail
      go_ret
      exact ⟨_, rfl, HEnd.out, HBr.out⟩
end Go.Proofs.YtoenijflijfogaaGreat

/- The contract of the reference's Facts (layer 15). -/
namespace Go.Proofs.YtoenijflijfogaaGreat
open Go.RowKit

theorem enF_fit {R : Rl} (hR : RightP R) {fs : List Fa} (hm : ∀ f ∈ fs, mayF f = true) : FitL R (enF R fs) := by
  intro y hy
  obtain ⟨z, hz, e⟩ := can_mem hy
  obtain ⟨f, hf, rfl⟩ := List.mem_map.1 hz
  have ok := fcI_ok hR (hm f hf)
  refine ⟨⟨f.D, f.t - f.t % R.sz 0, 0, ?_, ok.beg hR⟩, ?_, (can_gd (en_gd R fs) y hy).r⟩
  · rw [e]
    exact rdF_kb _ _ _ ok.r
  · refine can_pos (en_gd R fs) ?_ y hy
    intro u hu
    obtain ⟨q, _, rfl⟩ := List.mem_map.1 hu
    show (1 : Int) ≠ 0
    decide
end Go.Proofs.YtoenijflijfogaaGreat
