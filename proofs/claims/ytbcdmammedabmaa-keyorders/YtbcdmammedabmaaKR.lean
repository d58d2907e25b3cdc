/- The walk of KeyOrders. -/
import Derived.Test.YtbcdmammedabmaaK12
import Derived.Test.YtbcdmammedabmaaRS
namespace Go.Proofs.Ytbcdmammedabmaa
open Go.RowKit Go.ChangeShapes Go.WideShapes Go.ChangeAt Go.Joins

def gE (L : List ByteArray) : Int := if mayB L = true then 0 else 40
def gB (L : List ByteArray) : List UInt8 := if mayB L = true then jn L else []
theorem group_any (v : Value) (L : List ByteArray) (w : World) (h : SReads w v L) :
    Calls Try.prog 18 #[v] w fun e w' => ∃ z, e = .returned (.tuple #[z, .int .i64 (gE L)]) ∧ Reads w' z (gB L) ∧ Below w.heap.size w w' := by
  cases hm : mayB L with
  | true =>
    refine (group_yes v L hm w h).mono ?_
    rintro e w' ⟨z, rfl, ho, hb⟩
    exact ⟨z, by unfold gE; rw [hm]; rfl, by unfold gB; rw [hm]; exact ho.reads, hb⟩
  | false =>
    refine (group_no v L hm w h).mono ?_
    rintro e w' ⟨rfl, rfl⟩
    exact ⟨.slice none 0 0, by unfold gE; rw [hm]; rfl, by unfold gB; rw [hm]; exact (Own.nil w' 0).reads, Below.refl _ _⟩
theorem refGroup_any (v : Value) (L : List ByteArray) (w : World) (h : SReads w v L) :
    Calls Try.prog 19 #[v] w fun e w' => ∃ z, e = .returned (.tuple #[z, .int .i64 (gE L)]) ∧ Reads w' z (gB L) ∧ Below w.heap.size w w' := by
  cases hm : mayB L with
  | true =>
    refine (refGroup_yes v L hm w h).mono ?_
    rintro e w' ⟨z, rfl, ho, hb⟩
    exact ⟨z, by unfold gE; rw [hm]; rfl, by unfold gB; rw [hm]; exact ho.reads, hb⟩
  | false =>
    refine (refGroup_no v L hm w h).mono ?_
    rintro e w' ⟨rfl, rfl⟩
    exact ⟨.slice none 0 0, by unfold gE; rw [hm]; rfl, by unfold gB; rw [hm]; exact (Own.nil w' 0).reads, Below.refl _ _⟩
def pE (m : Int) : Int := if m < 0 then 1 else 0
def pB (L : List ByteArray) (m : Int) : List ByteArray := if m < 0 then [] else pt L m.toNat
theorem parts_any (v : Value) (L : List ByteArray) (hL : L.length ≤ 1000) (m : Int) (hm : m ≤ 9223372036854775807) (w : World) (h : SReads w v L) :
    Calls Try.prog 20 #[v, .int .i64 m] w fun e w' => ∃ z, e = .returned (.tuple #[z, .int .i64 (pE m)]) ∧ SReads w' z (pB L m) ∧ Below w.heap.size w w' := by
  by_cases h0 : m < 0
  · refine (part_neg v m h0 w).mono ?_
    rintro e w' ⟨rfl, rfl⟩
    exact ⟨.slice none 0 0, by unfold pE; rw [if_pos h0], by unfold pB; rw [if_pos h0]; exact (SOwn.nil w' 0).reads, Below.refl _ _⟩
  · obtain ⟨n, rfl⟩ : ∃ n : Nat, m = n := ⟨m.toNat, by omega⟩
    refine (part_any v L hL n (by omega) w h).mono ?_
    rintro e w' ⟨z, rfl, ho, hb⟩
    exact ⟨z, by unfold pE; rw [if_neg h0], by unfold pB; rw [if_neg h0, Int.toNat_natCast]; exact ho.reads, hb⟩
theorem refParts_any (v : Value) (L : List ByteArray) (hL : L.length ≤ 1000) (m : Int) (hm : m ≤ 9223372036854775807) (w : World) (h : SReads w v L) :
    Calls Try.prog 21 #[v, .int .i64 m] w fun e w' => ∃ z, e = .returned (.tuple #[z, .int .i64 (pE m)]) ∧ SReads w' z (pB L m) ∧ Below w.heap.size w w' := by
  by_cases h0 : m < 0
  · refine (refPart_neg v m h0 w).mono ?_
    rintro e w' ⟨rfl, rfl⟩
    exact ⟨.slice none 0 0, by unfold pE; rw [if_pos h0], by unfold pB; rw [if_pos h0]; exact (SOwn.nil w' 0).reads, Below.refl _ _⟩
  · obtain ⟨n, rfl⟩ : ∃ n : Nat, m = n := ⟨m.toNat, by omega⟩
    refine (refPart_any v L hL n (by omega) w h).mono ?_
    rintro e w' ⟨z, rfl, ho, hb⟩
    exact ⟨z, by unfold pE; rw [if_neg h0], by unfold pB; rw [if_neg h0, Int.toNat_natCast]; exact ho.reads, hb⟩
set_option maxRecDepth 100000 in
set_option maxHeartbeats 2000000 in
theorem orders_walk (a b : Ky) (m : Int) (w : World) (ha : KLies a w) (hb : KLies b w) (hm : (Lit.int .i64 m).wf = true) :
    Calls Try.prog 4 #[a.val, b.val, .int .i64 m] w fun e w' => e = .returned (.bool true) ∧ Below w.heap.size w w' := by
  have HMM : Hid (m ≤ 9223372036854775807) := (bounds_i64 hm).2
  clear hm
  obtain ⟨a1, c1, hv1, _⟩ := ha.r.form
  obtain ⟨a2, c2, hv2, _⟩ := hb.r.form
  obtain ⟨v, L, f, g⟩ := a
  obtain ⟨v', L', f', g'⟩ := b
  simp only at hv1 hv2
  subst hv1 hv2
  have HKA : Hid (KLies ⟨.slice a1 L.length c1, L, f, g⟩ w) := ha
  have HKB : Hid (KLies ⟨.slice a2 L'.length c2, L', f', g'⟩ w) := hb
  clear ha hb
  unfold Ky.val
  simp only
  obtain ⟨W, HW⟩ := hid_ex ((w.alloc (.cells #[.slice a1 L.length c1, .int .i64 f, .int .i64 g] 24)).alloc (.cells #[.slice a2 L'.length c2, .int .i64 f', .int .i64 g'] 24))
  have HX : Hid (Below (w.heap.size + 2) ((w.alloc (.cells #[.slice a1 L.length c1, .int .i64 f, .int .i64 g] 24)).alloc (.cells #[.slice a2 L'.length c2, .int .i64 f', .int .i64 g'] 24)) W) := by rw [HW.out]; exact Below.refl _ _
  have HZ : Hid (w.heap.size + 2 ≤ W.heap.size) := by have := HX.out.size; unfold Hid; simpa using this
  obtain ⟨⟨k0, k1, k2⟩, k3, k4, k5⟩ := kbox2 HX.out
  go_enter Try.func4, Try.ntmps4
  go_wp2_with fail
  rw [← HW.out]
  refine (long_any _ L _ (HKA.out.below (box2_below HX.out)).r).mono ?_
  rintro e w1 ⟨rfl, hw⟩
  subst w1
  clear HW
  cases hl : longB L with
  | true =>
    clear hl
    go_wp2_with fail
    refine (alive_any _).mono ?_
    rintro e wz ⟨rfl, hbz⟩
    have HBz : Hid (Below w.heap.size w wz) := box2_below (HX.out.trans (hbz.mono HZ.out))
    clear hbz k0 k1 k2 k3 k4 k5
    go_wp2_with fail
    go_ret
    exact ⟨rfl, HBz.out⟩
  | false =>
    have HLL : Hid (L.length ≤ 1000) := by have := (longB_no.1 hl).1; unfold Hid; omega
    clear hl
    go_wp2_with fail
    refine (long_any _ L' _ (HKB.out.below (box2_below HX.out)).r).mono ?_
    rintro e w1 ⟨rfl, hw⟩
    subst w1
    cases hl : longB L' with
    | true =>
      clear hl
      go_wp2_with fail
      refine (alive_any _).mono ?_
      rintro e wz ⟨rfl, hbz⟩
      have HBz : Hid (Below w.heap.size w wz) := box2_below (HX.out.trans (hbz.mono HZ.out))
      clear hbz k0 k1 k2 k3 k4 k5
      go_wp2_with fail
      go_ret
      exact ⟨rfl, HBz.out⟩
    | false =>
      clear hl
      go_wp2_with fail
      refine (group_any _ L _ (HKA.out.below (box2_below HX.out)).r).mono ?_
      rintro e w2 ⟨x, rfl, r2, hb2⟩
      have HX2 : Hid (Below (w.heap.size + 2) ((w.alloc (.cells #[.slice a1 L.length c1, .int .i64 f, .int .i64 g] 24)).alloc (.cells #[.slice a2 L'.length c2, .int .i64 f', .int .i64 g'] 24)) w2) := HX.out.trans (hb2.mono HZ.out)
      have HS2 : Hid (w.heap.size + 2 ≤ w2.heap.size) := Nat.le_trans HZ.out hb2.size
      have HR2 : Hid (Reads w2 x (gB L)) := r2
      clear hb2 HX HZ r2 k0 k1 k2 k3 k4 k5
      obtain ⟨⟨k0, k1, k2⟩, k3, k4, k5⟩ := kbox2 HX2.out
      go_wp2_with fail
      refine (refGroup_any _ L _ (HKA.out.below (box2_below HX2.out)).r).mono ?_
      rintro e w3 ⟨y, rfl, r3, hb3⟩
      have HX3 : Hid (Below (w.heap.size + 2) ((w.alloc (.cells #[.slice a1 L.length c1, .int .i64 f, .int .i64 g] 24)).alloc (.cells #[.slice a2 L'.length c2, .int .i64 f', .int .i64 g'] 24)) w3) := HX2.out.trans (hb3.mono HS2.out)
      have HS3 : Hid (w.heap.size + 2 ≤ w3.heap.size) := Nat.le_trans HS2.out hb3.size
      have HR3 : Hid (Reads w3 x (gB L)) := HR2.out.below hb3
      have HQ3 : Hid (Reads w3 y (gB L)) := r3
      clear hb3 HX2 HS2 HR2 r3 k0 k1 k2 k3 k4 k5
      obtain ⟨⟨k0, k1, k2⟩, k3, k4, k5⟩ := kbox2 HX3.out
      go_wp2_with fail
      refine (parts_any _ L HLL.out m HMM.out _ (HKA.out.below (box2_below HX3.out)).r).mono ?_
      rintro e w4 ⟨p, rfl, r4, hb4⟩
      have HX4 : Hid (Below (w.heap.size + 2) ((w.alloc (.cells #[.slice a1 L.length c1, .int .i64 f, .int .i64 g] 24)).alloc (.cells #[.slice a2 L'.length c2, .int .i64 f', .int .i64 g'] 24)) w4) := HX3.out.trans (hb4.mono HS3.out)
      have HS4 : Hid (w.heap.size + 2 ≤ w4.heap.size) := Nat.le_trans HS3.out hb4.size
      have HR4 : Hid (Reads w4 x (gB L)) := HR3.out.below hb4
      have HQ4 : Hid (Reads w4 y (gB L)) := HQ3.out.below hb4
      have HP4 : Hid (SReads w4 p (pB L m)) := r4
      clear hb4 HX3 HS3 HR3 HQ3 r4 k0 k1 k2 k3 k4 k5
      obtain ⟨⟨k0, k1, k2⟩, k3, k4, k5⟩ := kbox2 HX4.out
      go_wp2_with fail
      refine (refParts_any _ L HLL.out m HMM.out _ (HKA.out.below (box2_below HX4.out)).r).mono ?_
      rintro e w5 ⟨q, rfl, r5, hb5⟩
      have HX5 : Hid (Below (w.heap.size + 2) ((w.alloc (.cells #[.slice a1 L.length c1, .int .i64 f, .int .i64 g] 24)).alloc (.cells #[.slice a2 L'.length c2, .int .i64 f', .int .i64 g'] 24)) w5) := HX4.out.trans (hb5.mono HS4.out)
      have HS5 : Hid (w.heap.size + 2 ≤ w5.heap.size) := Nat.le_trans HS4.out hb5.size
      have HR5 : Hid (Reads w5 x (gB L)) := HR4.out.below hb5
      have HQ5 : Hid (Reads w5 y (gB L)) := HQ4.out.below hb5
      have HP5 : Hid (SReads w5 p (pB L m)) := HP4.out.below hb5
      have HO5 : Hid (SReads w5 q (pB L m)) := r5
      clear hb5 HX4 HS4 HR4 HQ4 HP4 r5 k0 k1 k2 k3 k4 k5
      generalize gB L = X at *
      generalize gE L = E at *
      generalize pB L m = P at *
      generalize pE m = F at *
      go_wp2_with fail
      refine wp_region_noPanic ?_
      refine wp_region_held_drew (S := (fun w' => Below (w.heap.size + 2) ((w.alloc (.cells #[.slice a1 L.length c1, .int .i64 f, .int .i64 g] 24)).alloc (.cells #[.slice a2 L'.length c2, .int .i64 f', .int .i64 g'] 24)) w' ∧ Reads w' x X ∧ Reads w' y X ∧ SReads w' p P ∧ SReads w' q P)) (by kernel_rfl) ?_ (fun hHeld => ?_)
      · exact ⟨HX5.out.drew, HR5.out.drew, HQ5.out.drew, HP5.out.below (Below.refl _ _).drew, HO5.out.below (Below.refl _ _).drew⟩
      refine wpAnyH_ready (rs := [0]) (by kernel_rfl) (by simp) ?_
      refine AllReadyH.cons (o := _) rfl (fun K hK => ?_) AllReadyH.nil
      go_simp
      refine (alive_any _).mono ?_
      rintro e w6 ⟨rfl, hb6⟩
      go_wp2_with fail
      refine hK.out _ _ ?_ (fun hHeld => ?_)
      · exact ⟨hHeld.1.trans (hb6.mono HS5.out), hHeld.2.1.below hb6, hHeld.2.2.1.below hb6, hHeld.2.2.2.1.below hb6, hHeld.2.2.2.2.below hb6⟩
      clear hK K
      have HS6 : Hid (w.heap.size + 2 ≤ w6.heap.size) := Nat.le_trans HS5.out hb6.size
      clear hb6
      refine wpAnyH_take (i := 1) (v := .bool true) rfl (by kernel_rfl) (by kernel_rfl) (by kernel_rfl) (fun _ _ _ h => h) (Or.inl ⟨by rfl, ?_⟩) (by assumption) ?_
      · (intro w1 hSw; (try dsimp only at hSw); go_simp)
      simp only [List.getElem_toArray, List.getElem_cons_succ, List.getElem_cons_zero, Act.put, List.setIfInBounds_toArray, List.set_cons_zero, List.set_cons_succ]
      refine wpAnyH_take (i := 2) (v := .agg #[.slice a1 L.length c1, .int .i64 f, .int .i64 g]) rfl (by kernel_rfl) (by kernel_rfl) (by kernel_rfl) (fun _ _ _ h => h) (Or.inl ⟨by rfl, ?_⟩) (by assumption) ?_
      · (intro w1 hSw; (try dsimp only at hSw); obtain ⟨⟨k0, k1, k2⟩, k3, k4, k5⟩ := kbox2 hSw.1; go_simp)
      simp only [List.getElem_toArray, List.getElem_cons_succ, List.getElem_cons_zero, Act.put, List.setIfInBounds_toArray, List.set_cons_zero, List.set_cons_succ]
      refine wpAnyH_take (i := 3) (v := .agg #[.slice a2 L'.length c2, .int .i64 f', .int .i64 g']) rfl (by kernel_rfl) (by kernel_rfl) (by kernel_rfl) (fun _ _ _ h => h) (Or.inl ⟨by rfl, ?_⟩) (by assumption) ?_
      · (intro w1 hSw; (try dsimp only at hSw); obtain ⟨⟨k0, k1, k2⟩, k3, k4, k5⟩ := kbox2 hSw.1; go_simp)
      simp only [List.getElem_toArray, List.getElem_cons_succ, List.getElem_cons_zero, Act.put, List.setIfInBounds_toArray, List.set_cons_zero, List.set_cons_succ]
      refine wpAnyH_take (i := 5) (v := .agg #[.slice a1 L.length c1, .int .i64 f, .int .i64 g]) rfl (by kernel_rfl) (by kernel_rfl) (by kernel_rfl) (fun _ _ _ h => h) (Or.inl ⟨by rfl, ?_⟩) (by assumption) ?_
      · (intro w1 hSw; (try dsimp only at hSw); obtain ⟨⟨k0, k1, k2⟩, k3, k4, k5⟩ := kbox2 hSw.1; go_simp)
      simp only [List.getElem_toArray, List.getElem_cons_succ, List.getElem_cons_zero, Act.put, List.setIfInBounds_toArray, List.set_cons_zero, List.set_cons_succ]
      refine wpAnyH_take (i := 6) (v := .agg #[.slice a2 L'.length c2, .int .i64 f', .int .i64 g']) rfl (by kernel_rfl) (by kernel_rfl) (by kernel_rfl) (fun _ _ _ h => h) (Or.inl ⟨by rfl, ?_⟩) (by assumption) ?_
      · (intro w1 hSw; (try dsimp only at hSw); obtain ⟨⟨k0, k1, k2⟩, k3, k4, k5⟩ := kbox2 hSw.1; go_simp)
      simp only [List.getElem_toArray, List.getElem_cons_succ, List.getElem_cons_zero, Act.put, List.setIfInBounds_toArray, List.set_cons_zero, List.set_cons_succ]
      refine wpAnyH_ready (rs := [4]) (by kernel_rfl) (by simp) ?_
      refine AllReadyH.cons (o := _) rfl (fun K hK => ?_) AllReadyH.nil
      go_simp
      refine (less_any ⟨.slice a1 L.length c1, L, f, g⟩ ⟨.slice a2 L'.length c2, L', f', g'⟩ _ (HKA.out.below (box2_below hHeld.1)) (HKB.out.below (box2_below hHeld.1))).mono ?_
      rintro e w7 ⟨rfl, hb7⟩
      go_wp2_with fail
      refine hK.out _ _ ?_ (fun hHeld => ?_)
      · exact ⟨hHeld.1.trans (hb7.mono HS6.out), hHeld.2.1.below hb7, hHeld.2.2.1.below hb7, hHeld.2.2.2.1.below hb7, hHeld.2.2.2.2.below hb7⟩
      clear hK K
      have HS7 : Hid (w.heap.size + 2 ≤ w7.heap.size) := Nat.le_trans HS6.out hb7.size
      clear hb7
      refine wpAnyH_ready (rs := [7]) (by kernel_rfl) (by simp) ?_
      refine AllReadyH.cons (o := _) rfl (fun K hK => ?_) AllReadyH.nil
      go_simp
      refine (refLess_any ⟨.slice a1 L.length c1, L, f, g⟩ ⟨.slice a2 L'.length c2, L', f', g'⟩ _ (HKA.out.below (box2_below hHeld.1)) (HKB.out.below (box2_below hHeld.1))).mono ?_
      rintro e w8 ⟨rfl, hb8⟩
      go_wp2_with fail
      refine hK.out _ _ ?_ (fun hHeld => ?_)
      · exact ⟨hHeld.1.trans (hb8.mono HS7.out), hHeld.2.1.below hb8, hHeld.2.2.1.below hb8, hHeld.2.2.2.1.below hb8, hHeld.2.2.2.2.below hb8⟩
      clear hK K
      have HS8 : Hid (w.heap.size + 2 ≤ w8.heap.size) := Nat.le_trans HS7.out hb8.size
      clear hb8
      generalize lessK ⟨.slice a1 L.length c1, L, f, g⟩ ⟨.slice a2 L'.length c2, L', f', g'⟩ = T
      refine wpAnyH_take (i := 8) (v := .bool true) rfl (by kernel_rfl) (by kernel_rfl) (by kernel_rfl) (fun _ _ _ h => h) (Or.inl ⟨by rfl, ?_⟩) (by assumption) ?_
      · (intro w1 hSw; (try dsimp only at hSw); go_simp)
      simp only [List.getElem_toArray, List.getElem_cons_succ, List.getElem_cons_zero, Act.put, List.setIfInBounds_toArray, List.set_cons_zero, List.set_cons_succ]
      refine wpAnyH_take (i := 9) (v := .bool true) rfl (by kernel_rfl) (by kernel_rfl) (by kernel_rfl) (fun _ _ _ h => h) (Or.inl ⟨by rfl, ?_⟩) (by assumption) ?_
      · (intro w1 hSw; (try dsimp only at hSw); go_simp)
      simp only [List.getElem_toArray, List.getElem_cons_succ, List.getElem_cons_zero, Act.put, List.setIfInBounds_toArray, List.set_cons_zero, List.set_cons_succ]
      refine wpAnyH_take (i := 10) (v := .bool true) rfl (by kernel_rfl) (by kernel_rfl) (by kernel_rfl) (fun _ _ _ h => h) (Or.inl ⟨by rfl, ?_⟩) (by assumption) ?_
      · (intro w1 hSw; (try dsimp only at hSw); go_simp)
      simp only [List.getElem_toArray, List.getElem_cons_succ, List.getElem_cons_zero, Act.put, List.setIfInBounds_toArray, List.set_cons_zero, List.set_cons_succ]
      refine wpAnyH_take (i := 11) (v := x) rfl (by kernel_rfl) (by kernel_rfl) (by kernel_rfl) (fun _ _ _ h => h) (Or.inl ⟨by rfl, ?_⟩) (by assumption) ?_
      · (intro w1 hSw; (try dsimp only at hSw); go_simp)
      simp only [List.getElem_toArray, List.getElem_cons_succ, List.getElem_cons_zero, Act.put, List.setIfInBounds_toArray, List.set_cons_zero, List.set_cons_succ]
      refine wpAnyH_take (i := 12) (v := .string ⟨X.toArray⟩) rfl (by kernel_rfl) (by kernel_rfl) (by kernel_rfl) (fun _ _ _ h => h) (Or.inl ⟨by rfl, ?_⟩) (by assumption) ?_
      · (intro w1 hSw; (try dsimp only at hSw); have hcv := reads_text hSw.2.1; go_simp)
      simp only [List.getElem_toArray, List.getElem_cons_succ, List.getElem_cons_zero, Act.put, List.setIfInBounds_toArray, List.set_cons_zero, List.set_cons_succ]
      refine wpAnyH_take (i := 13) (v := y) rfl (by kernel_rfl) (by kernel_rfl) (by kernel_rfl) (fun _ _ _ h => h) (Or.inl ⟨by rfl, ?_⟩) (by assumption) ?_
      · (intro w1 hSw; (try dsimp only at hSw); go_simp)
      simp only [List.getElem_toArray, List.getElem_cons_succ, List.getElem_cons_zero, Act.put, List.setIfInBounds_toArray, List.set_cons_zero, List.set_cons_succ]
      refine wpAnyH_take (i := 14) (v := .string ⟨X.toArray⟩) rfl (by kernel_rfl) (by kernel_rfl) (by kernel_rfl) (fun _ _ _ h => h) (Or.inl ⟨by rfl, ?_⟩) (by assumption) ?_
      · (intro w1 hSw; (try dsimp only at hSw); have hcv := reads_text hSw.2.2.1; go_simp)
      simp only [List.getElem_toArray, List.getElem_cons_succ, List.getElem_cons_zero, Act.put, List.setIfInBounds_toArray, List.set_cons_zero, List.set_cons_succ]
      refine wpAnyH_take (i := 15) (v := .bool true) rfl (by kernel_rfl) (by kernel_rfl) (by kernel_rfl) (fun _ _ _ h => h) (Or.inl ⟨by rfl, ?_⟩) (by assumption) ?_
      · (intro w1 hSw; (try dsimp only at hSw); go_simp)
      simp only [List.getElem_toArray, List.getElem_cons_succ, List.getElem_cons_zero, Act.put, List.setIfInBounds_toArray, List.set_cons_zero, List.set_cons_succ]
      refine wpAnyH_take (i := 16) (v := .bool true) rfl (by kernel_rfl) (by kernel_rfl) (by kernel_rfl) (fun _ _ _ h => h) (Or.inl ⟨by rfl, ?_⟩) (by assumption) ?_
      · (intro w1 hSw; (try dsimp only at hSw); go_simp)
      simp only [List.getElem_toArray, List.getElem_cons_succ, List.getElem_cons_zero, Act.put, List.setIfInBounds_toArray, List.set_cons_zero, List.set_cons_succ]
      refine wpAnyH_take (i := 17) (v := .bool true) rfl (by kernel_rfl) (by kernel_rfl) (by kernel_rfl) (fun _ _ _ h => h) (Or.inl ⟨by rfl, ?_⟩) (by assumption) ?_
      · (intro w1 hSw; (try dsimp only at hSw); go_simp)
      simp only [List.getElem_toArray, List.getElem_cons_succ, List.getElem_cons_zero, Act.put, List.setIfInBounds_toArray, List.set_cons_zero, List.set_cons_succ]
      refine wpAnyH_take (i := 18) (v := .int .i64 E) rfl (by kernel_rfl) (by kernel_rfl) (by kernel_rfl) (fun _ _ _ h => h) (Or.inl ⟨by rfl, ?_⟩) (by assumption) ?_
      · (intro w1 hSw; (try dsimp only at hSw); go_simp)
      simp only [List.getElem_toArray, List.getElem_cons_succ, List.getElem_cons_zero, Act.put, List.setIfInBounds_toArray, List.set_cons_zero, List.set_cons_succ]
      refine wpAnyH_take (i := 19) (v := .int .i64 E) rfl (by kernel_rfl) (by kernel_rfl) (by kernel_rfl) (fun _ _ _ h => h) (Or.inl ⟨by rfl, ?_⟩) (by assumption) ?_
      · (intro w1 hSw; (try dsimp only at hSw); go_simp)
      simp only [List.getElem_toArray, List.getElem_cons_succ, List.getElem_cons_zero, Act.put, List.setIfInBounds_toArray, List.set_cons_zero, List.set_cons_succ]
      refine wpAnyH_take (i := 20) (v := .bool true) rfl (by kernel_rfl) (by kernel_rfl) (by kernel_rfl) (fun _ _ _ h => h) (Or.inl ⟨by rfl, ?_⟩) (by assumption) ?_
      · (intro w1 hSw; (try dsimp only at hSw); go_simp)
      simp only [List.getElem_toArray, List.getElem_cons_succ, List.getElem_cons_zero, Act.put, List.setIfInBounds_toArray, List.set_cons_zero, List.set_cons_succ]
      refine wpAnyH_take (i := 21) (v := .bool true) rfl (by kernel_rfl) (by kernel_rfl) (by kernel_rfl) (fun _ _ _ h => h) (Or.inl ⟨by rfl, ?_⟩) (by assumption) ?_
      · (intro w1 hSw; (try dsimp only at hSw); go_simp)
      simp only [List.getElem_toArray, List.getElem_cons_succ, List.getElem_cons_zero, Act.put, List.setIfInBounds_toArray, List.set_cons_zero, List.set_cons_succ]
      refine wpAnyH_take (i := 22) (v := .bool true) rfl (by kernel_rfl) (by kernel_rfl) (by kernel_rfl) (fun _ _ _ h => h) (Or.inl ⟨by rfl, ?_⟩) (by assumption) ?_
      · (intro w1 hSw; (try dsimp only at hSw); go_simp)
      simp only [List.getElem_toArray, List.getElem_cons_succ, List.getElem_cons_zero, Act.put, List.setIfInBounds_toArray, List.set_cons_zero, List.set_cons_succ]
      refine wpAnyH_take (i := 23) (v := p) rfl (by kernel_rfl) (by kernel_rfl) (by kernel_rfl) (fun _ _ _ h => h) (Or.inl ⟨by rfl, ?_⟩) (by assumption) ?_
      · (intro w1 hSw; (try dsimp only at hSw); go_simp)
      simp only [List.getElem_toArray, List.getElem_cons_succ, List.getElem_cons_zero, Act.put, List.setIfInBounds_toArray, List.set_cons_zero, List.set_cons_succ]
      refine wpAnyH_take (i := 24) (v := q) rfl (by kernel_rfl) (by kernel_rfl) (by kernel_rfl) (fun _ _ _ h => h) (Or.inl ⟨by rfl, ?_⟩) (by assumption) ?_
      · (intro w1 hSw; (try dsimp only at hSw); go_simp)
      simp only [List.getElem_toArray, List.getElem_cons_succ, List.getElem_cons_zero, Act.put, List.setIfInBounds_toArray, List.set_cons_zero, List.set_cons_succ]
      refine wpAnyH_ready (rs := [25]) (by kernel_rfl) (by simp) ?_
      refine AllReadyH.cons (o := _) rfl (fun K hK => ?_) AllReadyH.nil
      go_simp
      refine (order_any _ _ P P _ hHeld.2.2.2.1 hHeld.2.2.2.2).mono ?_
      rw [(cmpL_zero P P).2 rfl]
      rintro e w9 ⟨rfl, hb9⟩
      go_wp2_with fail
      refine hK.out _ _ ?_ (fun hHeld => ?_)
      · exact ⟨hHeld.1.trans (hb9.mono HS8.out), hHeld.2.1.below hb9, hHeld.2.2.1.below hb9, hHeld.2.2.2.1.below hb9, hHeld.2.2.2.2.below hb9⟩
      clear hK K
      clear hb9
      refine wpAnyH_take (i := 26) (v := .bool true) rfl (by kernel_rfl) (by kernel_rfl) (by kernel_rfl) (fun _ _ _ h => h) (Or.inl ⟨by rfl, ?_⟩) (by assumption) ?_
      · (intro w1 hSw; (try dsimp only at hSw); go_simp)
      simp only [List.getElem_toArray, List.getElem_cons_succ, List.getElem_cons_zero, Act.put, List.setIfInBounds_toArray, List.set_cons_zero, List.set_cons_succ]
      refine wpAnyH_take (i := 27) (v := .bool true) rfl (by kernel_rfl) (by kernel_rfl) (by kernel_rfl) (fun _ _ _ h => h) (Or.inl ⟨by rfl, ?_⟩) (by assumption) ?_
      · (intro w1 hSw; (try dsimp only at hSw); go_simp)
      simp only [List.getElem_toArray, List.getElem_cons_succ, List.getElem_cons_zero, Act.put, List.setIfInBounds_toArray, List.set_cons_zero, List.set_cons_succ]
      refine wpAnyH_take (i := 28) (v := .bool true) rfl (by kernel_rfl) (by kernel_rfl) (by kernel_rfl) (fun _ _ _ h => h) (Or.inl ⟨by rfl, ?_⟩) (by assumption) ?_
      · (intro w1 hSw; (try dsimp only at hSw); go_simp)
      simp only [List.getElem_toArray, List.getElem_cons_succ, List.getElem_cons_zero, Act.put, List.setIfInBounds_toArray, List.set_cons_zero, List.set_cons_succ]
      refine wpAnyH_take (i := 29) (v := .int .i64 F) rfl (by kernel_rfl) (by kernel_rfl) (by kernel_rfl) (fun _ _ _ h => h) (Or.inl ⟨by rfl, ?_⟩) (by assumption) ?_
      · (intro w1 hSw; (try dsimp only at hSw); go_simp)
      simp only [List.getElem_toArray, List.getElem_cons_succ, List.getElem_cons_zero, Act.put, List.setIfInBounds_toArray, List.set_cons_zero, List.set_cons_succ]
      refine wpAnyH_take (i := 30) (v := .int .i64 F) rfl (by kernel_rfl) (by kernel_rfl) (by kernel_rfl) (fun _ _ _ h => h) (Or.inl ⟨by rfl, ?_⟩) (by assumption) ?_
      · (intro w1 hSw; (try dsimp only at hSw); go_simp)
      simp only [List.getElem_toArray, List.getElem_cons_succ, List.getElem_cons_zero, Act.put, List.setIfInBounds_toArray, List.set_cons_zero, List.set_cons_succ]
      refine wpAnyH_take (i := 31) (v := .bool true) rfl (by kernel_rfl) (by kernel_rfl) (by kernel_rfl) (fun _ _ _ h => h) (Or.inl ⟨by rfl, ?_⟩) (by assumption) ?_
      · (intro w1 hSw; (try dsimp only at hSw); go_simp)
      simp only [List.getElem_toArray, List.getElem_cons_succ, List.getElem_cons_zero, Act.put, List.setIfInBounds_toArray, List.set_cons_zero, List.set_cons_succ]
      refine wpAnyH_take (i := 32) (v := .bool true) rfl (by kernel_rfl) (by kernel_rfl) (by kernel_rfl) (fun _ _ _ h => h) (Or.inl ⟨by rfl, ?_⟩) (by assumption) ?_
      · (intro w1 hSw; (try dsimp only at hSw); go_simp)
      simp only [List.getElem_toArray, List.getElem_cons_succ, List.getElem_cons_zero, Act.put, List.setIfInBounds_toArray, List.set_cons_zero, List.set_cons_succ]
      refine wpAnyH_take (i := 33) (v := .bool true) rfl (by kernel_rfl) (by kernel_rfl) (by kernel_rfl) (fun _ _ _ h => h) (Or.inl ⟨by rfl, ?_⟩) (by assumption) ?_
      · (intro w1 hSw; (try dsimp only at hSw); go_simp)
      simp only [List.getElem_toArray, List.getElem_cons_succ, List.getElem_cons_zero, Act.put, List.setIfInBounds_toArray, List.set_cons_zero, List.set_cons_succ]
      refine wpAnyH_done (by kernel_rfl) ?_ _
      refine NoPanic.normal ?_
      have HB9 : Hid (Below w.heap.size w w9) := box2_below hHeld.1
      clear hHeld
      go_wp2_with fail
      go_ret
      exact ⟨rfl, HB9.out⟩
end Go.Proofs.Ytbcdmammedabmaa
