/- The walk of KeyWrites. -/
import Derived.Test.YtbcdmammedabmaaK14
import Derived.Test.YtbcdmammedabmaaRS
namespace Go.Proofs.Ytbcdmammedabmaa
open Go.RowKit Go.Joins

def xE (L : List ByteArray) (f g : Int) : Int := if rightB L f g = true then 0 else 40
def xB (L : List ByteArray) (f g : Int) : List UInt8 := if rightB L f g = true then kb L f g else []
def xD (l : List UInt8) : List ByteArray := match rdF l with | some (D, _, _) => D | none => []
def xf (l : List UInt8) : Int := match rdF l with | some (_, f, _) => f | none => 0
def xg (l : List UInt8) : Int := match rdF l with | some (_, _, g) => g | none => 0
def xr (l : List UInt8) : Int := match rdF l with | some _ => 0 | none => 40
theorem xwrite_any (k : Ky) (w : World) (h : KLies k w) :
    Calls Try.prog 11 #[k.val] w fun e w' => ∃ v, e = .returned (.tuple #[v, .int .i64 (xE k.L k.f k.g)]) ∧ Reads w' v (xB k.L k.f k.g) ∧ Below w.heap.size w w' := by
  cases hr : rightB k.L k.f k.g with
  | true =>
    refine (write_yes k hr w h).mono ?_
    rintro e w' ⟨v, rfl, ho, hb⟩
    exact ⟨v, by unfold xE; rw [hr]; rfl, by unfold xB; rw [hr]; exact ho.reads, hb⟩
  | false =>
    refine (write_no k hr w h).mono ?_
    rintro e w' ⟨rfl, hb⟩
    exact ⟨.slice none 0 0, by unfold xE; rw [hr]; rfl, by unfold xB; rw [hr]; exact (Own.nil w' 0).reads, hb⟩
theorem xrefWrite_any (k : Ky) (w : World) (h : KLies k w) :
    Calls Try.prog 12 #[k.val] w fun e w' => ∃ v, e = .returned (.tuple #[v, .int .i64 (xE k.L k.f k.g)]) ∧ Reads w' v (xB k.L k.f k.g) ∧ Below w.heap.size w w' := by
  cases hr : rightB k.L k.f k.g with
  | true =>
    refine (refWrite_yes k hr w h).mono ?_
    rintro e w' ⟨v, rfl, ho, hb⟩
    exact ⟨v, by unfold xE; rw [hr]; rfl, by unfold xB; rw [hr]; exact ho.reads, hb⟩
  | false =>
    refine (refWrite_no k hr w h).mono ?_
    rintro e w' ⟨rfl, hb⟩
    exact ⟨.slice none 0 0, by unfold xE; rw [hr]; rfl, by unfold xB; rw [hr]; exact (Own.nil w' 0).reads, hb⟩
theorem xread_any (v : Value) (l : List UInt8) (hl : l.length ≤ 1000) (w : World) (h : Reads w v l) :
    Calls Try.prog 13 #[v] w fun e w' => ∃ a c, e = .returned (.tuple #[.agg #[.slice a (xD l).length c, .int .i64 (xf l), .int .i64 (xg l)], .int .i64 (xr l)]) ∧ KLies ⟨.slice a (xD l).length c, xD l, xf l, xg l⟩ w' ∧ Below w.heap.size w w' := by
  refine (read_any v l hl w h).mono ?_
  rintro e w' (⟨D, f, g, vd, hr, rfl, hk, hb⟩ | ⟨hr, rfl, hb⟩)
  · obtain ⟨a, c, hv, _⟩ := hk.r.form
    simp only at hv
    subst hv
    unfold xD xf xg xr
    rw [hr]
    exact ⟨a, c, rfl, hk, hb⟩
  · unfold xD xf xg xr
    rw [hr]
    exact ⟨none, 0, rfl, ⟨.inl ⟨rfl, _, _, rfl, fun _ => rfl⟩, by simp, by simp, by simp, by simp⟩, hb⟩
theorem xrefRead_any (v : Value) (l : List UInt8) (hl : l.length ≤ 1000) (w : World) (h : Reads w v l) :
    Calls Try.prog 14 #[v] w fun e w' => ∃ a c, e = .returned (.tuple #[.agg #[.slice a (xD l).length c, .int .i64 (xf l), .int .i64 (xg l)], .int .i64 (xr l)]) ∧ KLies ⟨.slice a (xD l).length c, xD l, xf l, xg l⟩ w' ∧ Below w.heap.size w w' := by
  refine (refRead_any v l hl w h).mono ?_
  rintro e w' (⟨D, f, g, vd, hr, rfl, hk, hb⟩ | ⟨hr, rfl, hb⟩)
  · obtain ⟨a, c, hv, _⟩ := hk.r.form
    simp only at hv
    subst hv
    unfold xD xf xg xr
    rw [hr]
    exact ⟨a, c, rfl, hk, hb⟩
  · unfold xD xf xg xr
    rw [hr]
    exact ⟨none, 0, rfl, ⟨.inl ⟨rfl, _, _, rfl, fun _ => rfl⟩, by simp, by simp, by simp, by simp⟩, hb⟩
theorem kwkeep {W w0 w1 : World} {n b9 b11 : Nat} {x y xp xq : Value} {X : List UInt8} {F G : Int} {kp kq : Ky} (h : Below n W w0 ∧ (Reads w0 x X ∧ Reads w0 y X) ∧ (KBx b9 w0 xp (.int .i64 F) (.int .i64 G) ∧ KBx b11 w0 xq (.int .i64 F) (.int .i64 G)) ∧ KLies kp w0 ∧ KLies kq w0 ∧ (b9 < w0.heap.size ∧ b11 < w0.heap.size) ∧ n ≤ w0.heap.size) (hb : Below w0.heap.size w0 w1) :
    Below n W w1 ∧ (Reads w1 x X ∧ Reads w1 y X) ∧ (KBx b9 w1 xp (.int .i64 F) (.int .i64 G) ∧ KBx b11 w1 xq (.int .i64 F) (.int .i64 G)) ∧ KLies kp w1 ∧ KLies kq w1 ∧ (b9 < w1.heap.size ∧ b11 < w1.heap.size) ∧ n ≤ w1.heap.size :=
  ⟨h.1.trans (hb.mono h.2.2.2.2.2.2), ⟨h.2.1.1.below hb, h.2.1.2.below hb⟩, ⟨h.2.2.1.1.below hb h.2.2.2.2.2.1.1, h.2.2.1.2.below hb h.2.2.2.2.2.1.2⟩, h.2.2.2.1.below hb, h.2.2.2.2.1.below hb, ⟨Nat.lt_of_lt_of_le h.2.2.2.2.2.1.1 hb.size, Nat.lt_of_lt_of_le h.2.2.2.2.2.1.2 hb.size⟩, Nat.le_trans h.2.2.2.2.2.2 hb.size⟩
set_option maxRecDepth 100000 in
set_option maxHeartbeats 2000000 in
theorem writes_walk (k : Ky) (vb : Value) (l : List UInt8) (w : World) (hk : KLies k w) (hb : Reads w vb l) :
    Calls Try.prog 3 #[k.val, vb] w fun e w' => e = .returned (.bool true) ∧ Below w.heap.size w w' := by
  obtain ⟨a1, c1, hv1, _⟩ := hk.r.form
  obtain ⟨ab, cb, rfl, hlm⟩ := hb.form
  unfold maxLen at hlm
  obtain ⟨v, L, f, g⟩ := k
  simp only at hv1
  subst hv1
  have HKA : Hid (KLies ⟨.slice a1 L.length c1, L, f, g⟩ w) := hk
  have HRB : Hid (Reads w (.slice ab l.length cb) l) := hb
  clear hk hb
  unfold Ky.val
  simp only
  obtain ⟨W, HW⟩ := hid_ex (w.alloc (.cells #[.slice a1 L.length c1, .int .i64 f, .int .i64 g] 24))
  have HX : Hid (Below (w.heap.size + 1) (w.alloc (.cells #[.slice a1 L.length c1, .int .i64 f, .int .i64 g] 24)) W) := by rw [HW.out]; exact Below.refl _ _
  have HZ : Hid (w.heap.size + 1 ≤ W.heap.size) := by have := HX.out.size; unfold Hid; simpa using this
  obtain ⟨k0, k1, k2⟩ := kbox HX.out
  go_enter Try.func3, Try.ntmps3
  go_wp2_with fail
  rw [← HW.out]
  refine (long_any _ L _ (HKA.out.below (box_below HX.out)).r).mono ?_
  rintro e w1 ⟨rfl, hw⟩
  subst w1
  clear HW
  cases hl : longB L with
  | true =>
    clear hl
    go_wp2_with fail
    refine (alive_any _).mono ?_
    rintro e wz ⟨rfl, hbz⟩
    have HBz : Hid (Below w.heap.size w wz) := box_below (HX.out.trans (hbz.mono HZ.out))
    clear hbz k0 k1 k2
    go_wp2_with fail
    go_ret
    exact ⟨rfl, HBz.out⟩
  | false =>
    clear hl
    by_cases h1000 : (1000 : Int) < (l.length : Int)
    · go_wp2_with fail
      refine (alive_any _).mono ?_
      rintro e wz ⟨rfl, hbz⟩
      have HBz : Hid (Below w.heap.size w wz) := box_below (HX.out.trans (hbz.mono HZ.out))
      clear hbz k0 k1 k2
      go_wp2_with fail
      go_ret
      exact ⟨rfl, HBz.out⟩
    · have HLL : Hid (l.length ≤ 1000) := by unfold Hid; omega
      go_wp2_with fail
      refine (xwrite_any ⟨.slice a1 L.length c1, L, f, g⟩ _ (HKA.out.below (box_below HX.out))).mono ?_
      simp only
      rintro e w2 ⟨x, rfl, r2, hb2⟩
      have HX2 : Hid (Below (w.heap.size + 1) (w.alloc (.cells #[.slice a1 L.length c1, .int .i64 f, .int .i64 g] 24)) w2) := HX.out.trans (hb2.mono HZ.out)
      have HS2 : Hid (w.heap.size + 1 ≤ w2.heap.size) := Nat.le_trans HZ.out hb2.size
      have HR2 : Hid (Reads w2 x (xB L f g)) := r2
      clear hb2 HX HZ r2 k0 k1 k2
      obtain ⟨k0, k1, k2⟩ := kbox HX2.out
      go_wp2_with fail
      refine (xrefWrite_any ⟨.slice a1 L.length c1, L, f, g⟩ _ (HKA.out.below (box_below HX2.out))).mono ?_
      simp only
      rintro e w3 ⟨y, rfl, r3, hb3⟩
      have HX3 : Hid (Below (w.heap.size + 1) (w.alloc (.cells #[.slice a1 L.length c1, .int .i64 f, .int .i64 g] 24)) w3) := HX2.out.trans (hb3.mono HS2.out)
      have HS3 : Hid (w.heap.size + 1 ≤ w3.heap.size) := Nat.le_trans HS2.out hb3.size
      have HR3 : Hid (Reads w3 x (xB L f g)) := HR2.out.below hb3
      have HQ3 : Hid (Reads w3 y (xB L f g)) := r3
      clear hb3 HX2 HS2 HR2 r3 k0 k1 k2
      go_wp2_with fail
      refine (xread_any _ l HLL.out _ (HRB.out.below (box_below HX3.out))).mono ?_
      rintro e w4 ⟨ap, cp, rfl, HK4, hb4⟩
      obtain ⟨W4, HW4⟩ := hid_ex (w4.alloc (.cells #[.slice ap (xD l).length cp, .int .i64 (xf l), .int .i64 (xg l)] 24))
      have hba : Below w3.heap.size w3 W4 := by rw [HW4.out]; exact hb4.alloc hb4.size _
      have HX4 : Hid (Below (w.heap.size + 1) (w.alloc (.cells #[.slice a1 L.length c1, .int .i64 f, .int .i64 g] 24)) W4) := HX3.out.trans (hba.mono HS3.out)
      have HS4 : Hid (w.heap.size + 1 ≤ W4.heap.size) := Nat.le_trans HS3.out hba.size
      have HR4 : Hid (Reads W4 x (xB L f g)) := HR3.out.below hba
      have HQ4 : Hid (Reads W4 y (xB L f g)) := HQ3.out.below hba
      have HP4 : Hid (KLies ⟨.slice ap (xD l).length cp, xD l, xf l, xg l⟩ W4) := by rw [HW4.out]; exact HK4.below ((Below.refl _ _).alloc (Nat.le_refl _) _)
      have HC4 : Hid (KBx w4.heap.size W4 (.slice ap (xD l).length cp) (.int .i64 (xf l)) (.int .i64 (xg l))) := by rw [HW4.out]; exact KBx.new _ _ _ _ _
      have HN4 : Hid (w4.heap.size < W4.heap.size) := by rw [HW4.out]; unfold Hid; simp
      obtain ⟨b9, HB9⟩ := hid_ex w4.heap.size
      rw [← HB9.out] at HC4 HN4
      clear hb4 hba HX3 HS3 HR3 HQ3 HK4
      go_wp2_with fail
      rw [← HW4.out, ← HB9.out]
      clear HW4 HB9
      refine (xrefRead_any _ l HLL.out _ (HRB.out.below (box_below HX4.out))).mono ?_
      rintro e w5 ⟨aq, cq, rfl, HK5, hb5⟩
      obtain ⟨W5, HW5⟩ := hid_ex (w5.alloc (.cells #[.slice aq (xD l).length cq, .int .i64 (xf l), .int .i64 (xg l)] 24))
      have hba : Below W4.heap.size W4 W5 := by rw [HW5.out]; exact hb5.alloc hb5.size _
      have HX5 : Hid (Below (w.heap.size + 1) (w.alloc (.cells #[.slice a1 L.length c1, .int .i64 f, .int .i64 g] 24)) W5) := HX4.out.trans (hba.mono HS4.out)
      have HS5 : Hid (w.heap.size + 1 ≤ W5.heap.size) := Nat.le_trans HS4.out hba.size
      have HR5 : Hid (Reads W5 x (xB L f g)) := HR4.out.below hba
      have HQ5 : Hid (Reads W5 y (xB L f g)) := HQ4.out.below hba
      have HP5 : Hid (KLies ⟨.slice ap (xD l).length cp, xD l, xf l, xg l⟩ W5) := HP4.out.below hba
      have HC5 : Hid (KBx b9 W5 (.slice ap (xD l).length cp) (.int .i64 (xf l)) (.int .i64 (xg l))) := HC4.out.below hba HN4.out
      have HN5 : Hid (b9 < W5.heap.size) := Nat.lt_of_lt_of_le HN4.out hba.size
      have HO5 : Hid (KLies ⟨.slice aq (xD l).length cq, xD l, xf l, xg l⟩ W5) := by rw [HW5.out]; exact HK5.below ((Below.refl _ _).alloc (Nat.le_refl _) _)
      have HE5 : Hid (KBx w5.heap.size W5 (.slice aq (xD l).length cq) (.int .i64 (xf l)) (.int .i64 (xg l))) := by rw [HW5.out]; exact KBx.new _ _ _ _ _
      have HM5 : Hid (w5.heap.size < W5.heap.size) := by rw [HW5.out]; unfold Hid; simp
      obtain ⟨b11, HB11⟩ := hid_ex w5.heap.size
      rw [← HB11.out] at HE5 HM5
      clear hb5 hba HX4 HS4 HR4 HQ4 HP4 HC4 HN4 HK5
      have HSM : Hid (sameK ⟨.slice ap (xD l).length cp, xD l, xf l, xg l⟩ ⟨.slice aq (xD l).length cq, xD l, xf l, xg l⟩ = true) := by unfold Hid sameK; rw [decide_eq_true_iff]; exact ⟨(cmpL_zero _ _).2 rfl, rfl, rfl⟩
      go_wp2_with fail
      rw [← HW5.out, ← HB11.out]
      clear HW5 HB11
      generalize xB L f g = X at *
      generalize xE L f g = E at *
      generalize xD l = D at *
      generalize xf l = F at *
      generalize xg l = G at *
      generalize xr l = R at *
      refine wp_region_noPanic ?_
      refine wp_region_held_drew (S := (fun w' => Below (w.heap.size + 1) (w.alloc (.cells #[.slice a1 L.length c1, .int .i64 f, .int .i64 g] 24)) w' ∧ (Reads w' x X ∧ Reads w' y X) ∧ (KBx b9 w' (.slice ap D.length cp) (.int .i64 F) (.int .i64 G) ∧ KBx b11 w' (.slice aq D.length cq) (.int .i64 F) (.int .i64 G)) ∧ KLies ⟨.slice ap D.length cp, D, F, G⟩ w' ∧ KLies ⟨.slice aq D.length cq, D, F, G⟩ w' ∧ (b9 < w'.heap.size ∧ b11 < w'.heap.size) ∧ w.heap.size + 1 ≤ w'.heap.size)) (by kernel_rfl) ?_ (fun hHeld => ?_)
      · exact ⟨HX5.out.drew, ⟨HR5.out.drew, HQ5.out.drew⟩, ⟨HC5.out, HE5.out⟩, HP5.out.below (Below.refl _ _).drew, HO5.out.below (Below.refl _ _).drew, ⟨HN5.out, HM5.out⟩, HS5.out⟩
      refine wpAnyH_ready (rs := [0]) (by kernel_rfl) (by simp) ?_
      refine AllReadyH.cons (o := _) rfl (fun K hK => ?_) AllReadyH.nil
      go_simp
      refine (alive_any _).mono ?_
      rintro e w6 ⟨rfl, hb6⟩
      go_wp2_with fail
      refine hK.out _ _ ?_ (fun hHeld => ?_)
      · exact kwkeep hHeld hb6
      clear hK K
      clear hb6
      refine wpAnyH_take (i := 1) (v := .bool true) rfl (by kernel_rfl) (by kernel_rfl) (by kernel_rfl) (fun _ _ _ h => h) (Or.inl ⟨by rfl, ?_⟩) (by assumption) ?_
      · (intro w1 hSw; (try dsimp only at hSw); go_simp)
      simp only [List.getElem_toArray, List.getElem_cons_succ, List.getElem_cons_zero, Act.put, List.setIfInBounds_toArray, List.set_cons_zero, List.set_cons_succ]
      refine wpAnyH_take (i := 2) (v := .agg #[.slice a1 L.length c1, .int .i64 f, .int .i64 g]) rfl (by kernel_rfl) (by kernel_rfl) (by kernel_rfl) (fun _ _ _ h => h) (Or.inl ⟨by rfl, ?_⟩) (by assumption) ?_
      · (intro w1 hSw; (try dsimp only at hSw); obtain ⟨k0, k1, k2⟩ := kbox hSw.1; go_simp)
      simp only [List.getElem_toArray, List.getElem_cons_succ, List.getElem_cons_zero, Act.put, List.setIfInBounds_toArray, List.set_cons_zero, List.set_cons_succ]
      refine wpAnyH_take (i := 4) (v := .agg #[.slice a1 L.length c1, .int .i64 f, .int .i64 g]) rfl (by kernel_rfl) (by kernel_rfl) (by kernel_rfl) (fun _ _ _ h => h) (Or.inl ⟨by rfl, ?_⟩) (by assumption) ?_
      · (intro w1 hSw; (try dsimp only at hSw); obtain ⟨k0, k1, k2⟩ := kbox hSw.1; go_simp)
      simp only [List.getElem_toArray, List.getElem_cons_succ, List.getElem_cons_zero, Act.put, List.setIfInBounds_toArray, List.set_cons_zero, List.set_cons_succ]
      refine wpAnyH_ready (rs := [3]) (by kernel_rfl) (by simp) ?_
      refine AllReadyH.cons (o := _) rfl (fun K hK => ?_) AllReadyH.nil
      go_simp
      refine (right_any ⟨.slice a1 L.length c1, L, f, g⟩ _ (HKA.out.below (box_below hHeld.1))).mono ?_
      simp only
      rintro e w7 ⟨rfl, hb7⟩
      go_wp2_with fail
      refine hK.out _ _ ?_ (fun hHeld => ?_)
      · exact kwkeep hHeld hb7
      clear hK K
      clear hb7
      refine wpAnyH_ready (rs := [5]) (by kernel_rfl) (by simp) ?_
      refine AllReadyH.cons (o := _) rfl (fun K hK => ?_) AllReadyH.nil
      go_simp
      refine (refRight_any ⟨.slice a1 L.length c1, L, f, g⟩ _ (HKA.out.below (box_below hHeld.1))).mono ?_
      simp only
      rintro e w8 ⟨rfl, hb8⟩
      go_wp2_with fail
      refine hK.out _ _ ?_ (fun hHeld => ?_)
      · exact kwkeep hHeld hb8
      clear hK K
      clear hb8
      generalize rightB L f g = T
      refine wpAnyH_take (i := 6) (v := .bool true) rfl (by kernel_rfl) (by kernel_rfl) (by kernel_rfl) (fun _ _ _ h => h) (Or.inl ⟨by rfl, ?_⟩) (by assumption) ?_
      · (intro w1 hSw; (try dsimp only at hSw); go_simp)
      simp only [List.getElem_toArray, List.getElem_cons_succ, List.getElem_cons_zero, Act.put, List.setIfInBounds_toArray, List.set_cons_zero, List.set_cons_succ]
      refine wpAnyH_take (i := 7) (v := .bool true) rfl (by kernel_rfl) (by kernel_rfl) (by kernel_rfl) (fun _ _ _ h => h) (Or.inl ⟨by rfl, ?_⟩) (by assumption) ?_
      · (intro w1 hSw; (try dsimp only at hSw); go_simp)
      simp only [List.getElem_toArray, List.getElem_cons_succ, List.getElem_cons_zero, Act.put, List.setIfInBounds_toArray, List.set_cons_zero, List.set_cons_succ]
      refine wpAnyH_take (i := 8) (v := .bool true) rfl (by kernel_rfl) (by kernel_rfl) (by kernel_rfl) (fun _ _ _ h => h) (Or.inl ⟨by rfl, ?_⟩) (by assumption) ?_
      · (intro w1 hSw; (try dsimp only at hSw); go_simp)
      simp only [List.getElem_toArray, List.getElem_cons_succ, List.getElem_cons_zero, Act.put, List.setIfInBounds_toArray, List.set_cons_zero, List.set_cons_succ]
      refine wpAnyH_take (i := 9) (v := x) rfl (by kernel_rfl) (by kernel_rfl) (by kernel_rfl) (fun _ _ _ h => h) (Or.inl ⟨by rfl, ?_⟩) (by assumption) ?_
      · (intro w1 hSw; (try dsimp only at hSw); go_simp)
      simp only [List.getElem_toArray, List.getElem_cons_succ, List.getElem_cons_zero, Act.put, List.setIfInBounds_toArray, List.set_cons_zero, List.set_cons_succ]
      refine wpAnyH_take (i := 10) (v := .string ⟨X.toArray⟩) rfl (by kernel_rfl) (by kernel_rfl) (by kernel_rfl) (fun _ _ _ h => h) (Or.inl ⟨by rfl, ?_⟩) (by assumption) ?_
      · (intro w1 hSw; (try dsimp only at hSw); have hcv := reads_text hSw.2.1.1; go_simp)
      simp only [List.getElem_toArray, List.getElem_cons_succ, List.getElem_cons_zero, Act.put, List.setIfInBounds_toArray, List.set_cons_zero, List.set_cons_succ]
      refine wpAnyH_take (i := 11) (v := y) rfl (by kernel_rfl) (by kernel_rfl) (by kernel_rfl) (fun _ _ _ h => h) (Or.inl ⟨by rfl, ?_⟩) (by assumption) ?_
      · (intro w1 hSw; (try dsimp only at hSw); go_simp)
      simp only [List.getElem_toArray, List.getElem_cons_succ, List.getElem_cons_zero, Act.put, List.setIfInBounds_toArray, List.set_cons_zero, List.set_cons_succ]
      refine wpAnyH_take (i := 12) (v := .string ⟨X.toArray⟩) rfl (by kernel_rfl) (by kernel_rfl) (by kernel_rfl) (fun _ _ _ h => h) (Or.inl ⟨by rfl, ?_⟩) (by assumption) ?_
      · (intro w1 hSw; (try dsimp only at hSw); have hcv := reads_text hSw.2.1.2; go_simp)
      simp only [List.getElem_toArray, List.getElem_cons_succ, List.getElem_cons_zero, Act.put, List.setIfInBounds_toArray, List.set_cons_zero, List.set_cons_succ]
      refine wpAnyH_take (i := 13) (v := .bool true) rfl (by kernel_rfl) (by kernel_rfl) (by kernel_rfl) (fun _ _ _ h => h) (Or.inl ⟨by rfl, ?_⟩) (by assumption) ?_
      · (intro w1 hSw; (try dsimp only at hSw); go_simp)
      simp only [List.getElem_toArray, List.getElem_cons_succ, List.getElem_cons_zero, Act.put, List.setIfInBounds_toArray, List.set_cons_zero, List.set_cons_succ]
      refine wpAnyH_take (i := 14) (v := .bool true) rfl (by kernel_rfl) (by kernel_rfl) (by kernel_rfl) (fun _ _ _ h => h) (Or.inl ⟨by rfl, ?_⟩) (by assumption) ?_
      · (intro w1 hSw; (try dsimp only at hSw); go_simp)
      simp only [List.getElem_toArray, List.getElem_cons_succ, List.getElem_cons_zero, Act.put, List.setIfInBounds_toArray, List.set_cons_zero, List.set_cons_succ]
      refine wpAnyH_take (i := 15) (v := .bool true) rfl (by kernel_rfl) (by kernel_rfl) (by kernel_rfl) (fun _ _ _ h => h) (Or.inl ⟨by rfl, ?_⟩) (by assumption) ?_
      · (intro w1 hSw; (try dsimp only at hSw); go_simp)
      simp only [List.getElem_toArray, List.getElem_cons_succ, List.getElem_cons_zero, Act.put, List.setIfInBounds_toArray, List.set_cons_zero, List.set_cons_succ]
      refine wpAnyH_take (i := 16) (v := .int .i64 E) rfl (by kernel_rfl) (by kernel_rfl) (by kernel_rfl) (fun _ _ _ h => h) (Or.inl ⟨by rfl, ?_⟩) (by assumption) ?_
      · (intro w1 hSw; (try dsimp only at hSw); go_simp)
      simp only [List.getElem_toArray, List.getElem_cons_succ, List.getElem_cons_zero, Act.put, List.setIfInBounds_toArray, List.set_cons_zero, List.set_cons_succ]
      refine wpAnyH_take (i := 17) (v := .int .i64 E) rfl (by kernel_rfl) (by kernel_rfl) (by kernel_rfl) (fun _ _ _ h => h) (Or.inl ⟨by rfl, ?_⟩) (by assumption) ?_
      · (intro w1 hSw; (try dsimp only at hSw); go_simp)
      simp only [List.getElem_toArray, List.getElem_cons_succ, List.getElem_cons_zero, Act.put, List.setIfInBounds_toArray, List.set_cons_zero, List.set_cons_succ]
      refine wpAnyH_take (i := 18) (v := .bool true) rfl (by kernel_rfl) (by kernel_rfl) (by kernel_rfl) (fun _ _ _ h => h) (Or.inl ⟨by rfl, ?_⟩) (by assumption) ?_
      · (intro w1 hSw; (try dsimp only at hSw); go_simp)
      simp only [List.getElem_toArray, List.getElem_cons_succ, List.getElem_cons_zero, Act.put, List.setIfInBounds_toArray, List.set_cons_zero, List.set_cons_succ]
      refine wpAnyH_take (i := 19) (v := .bool true) rfl (by kernel_rfl) (by kernel_rfl) (by kernel_rfl) (fun _ _ _ h => h) (Or.inl ⟨by rfl, ?_⟩) (by assumption) ?_
      · (intro w1 hSw; (try dsimp only at hSw); go_simp)
      simp only [List.getElem_toArray, List.getElem_cons_succ, List.getElem_cons_zero, Act.put, List.setIfInBounds_toArray, List.set_cons_zero, List.set_cons_succ]
      refine wpAnyH_take (i := 20) (v := .bool true) rfl (by kernel_rfl) (by kernel_rfl) (by kernel_rfl) (fun _ _ _ h => h) (Or.inl ⟨by rfl, ?_⟩) (by assumption) ?_
      · (intro w1 hSw; (try dsimp only at hSw); go_simp)
      simp only [List.getElem_toArray, List.getElem_cons_succ, List.getElem_cons_zero, Act.put, List.setIfInBounds_toArray, List.set_cons_zero, List.set_cons_succ]
      refine wpAnyH_take (i := 21) (v := .agg #[.slice ap D.length cp, .int .i64 F, .int .i64 G]) rfl (by kernel_rfl) (by kernel_rfl) (by kernel_rfl) (fun _ _ _ h => h) (Or.inl ⟨by rfl, ?_⟩) (by assumption) ?_
      · (intro w1 hSw; (try dsimp only at hSw); obtain ⟨⟨k0, k1, k2⟩, _⟩ := hSw.2.2.1.1; go_simp)
      simp only [List.getElem_toArray, List.getElem_cons_succ, List.getElem_cons_zero, Act.put, List.setIfInBounds_toArray, List.set_cons_zero, List.set_cons_succ]
      refine wpAnyH_take (i := 22) (v := .agg #[.slice aq D.length cq, .int .i64 F, .int .i64 G]) rfl (by kernel_rfl) (by kernel_rfl) (by kernel_rfl) (fun _ _ _ h => h) (Or.inl ⟨by rfl, ?_⟩) (by assumption) ?_
      · (intro w1 hSw; (try dsimp only at hSw); obtain ⟨⟨k0, k1, k2⟩, _⟩ := hSw.2.2.1.2; go_simp)
      simp only [List.getElem_toArray, List.getElem_cons_succ, List.getElem_cons_zero, Act.put, List.setIfInBounds_toArray, List.set_cons_zero, List.set_cons_succ]
      refine wpAnyH_ready (rs := [23]) (by kernel_rfl) (by simp) ?_
      refine AllReadyH.cons (o := _) rfl (fun K hK => ?_) AllReadyH.nil
      go_simp
      refine (same_any ⟨.slice ap D.length cp, D, F, G⟩ ⟨.slice aq D.length cq, D, F, G⟩ _ hHeld.2.2.2.1 hHeld.2.2.2.2.1).mono ?_
      rw [HSM.out]
      rintro e w9 ⟨rfl, hb9⟩
      go_wp2_with fail
      refine hK.out _ _ ?_ (fun hHeld => ?_)
      · exact kwkeep hHeld hb9
      clear hK K
      clear hb9
      refine wpAnyH_take (i := 24) (v := .bool true) rfl (by kernel_rfl) (by kernel_rfl) (by kernel_rfl) (fun _ _ _ h => h) (Or.inl ⟨by rfl, ?_⟩) (by assumption) ?_
      · (intro w1 hSw; (try dsimp only at hSw); go_simp)
      simp only [List.getElem_toArray, List.getElem_cons_succ, List.getElem_cons_zero, Act.put, List.setIfInBounds_toArray, List.set_cons_zero, List.set_cons_succ]
      refine wpAnyH_take (i := 25) (v := .bool true) rfl (by kernel_rfl) (by kernel_rfl) (by kernel_rfl) (fun _ _ _ h => h) (Or.inl ⟨by rfl, ?_⟩) (by assumption) ?_
      · (intro w1 hSw; (try dsimp only at hSw); go_simp)
      simp only [List.getElem_toArray, List.getElem_cons_succ, List.getElem_cons_zero, Act.put, List.setIfInBounds_toArray, List.set_cons_zero, List.set_cons_succ]
      refine wpAnyH_take (i := 26) (v := .int .i64 R) rfl (by kernel_rfl) (by kernel_rfl) (by kernel_rfl) (fun _ _ _ h => h) (Or.inl ⟨by rfl, ?_⟩) (by assumption) ?_
      · (intro w1 hSw; (try dsimp only at hSw); go_simp)
      simp only [List.getElem_toArray, List.getElem_cons_succ, List.getElem_cons_zero, Act.put, List.setIfInBounds_toArray, List.set_cons_zero, List.set_cons_succ]
      refine wpAnyH_take (i := 27) (v := .int .i64 R) rfl (by kernel_rfl) (by kernel_rfl) (by kernel_rfl) (fun _ _ _ h => h) (Or.inl ⟨by rfl, ?_⟩) (by assumption) ?_
      · (intro w1 hSw; (try dsimp only at hSw); go_simp)
      simp only [List.getElem_toArray, List.getElem_cons_succ, List.getElem_cons_zero, Act.put, List.setIfInBounds_toArray, List.set_cons_zero, List.set_cons_succ]
      refine wpAnyH_take (i := 28) (v := .bool true) rfl (by kernel_rfl) (by kernel_rfl) (by kernel_rfl) (fun _ _ _ h => h) (Or.inl ⟨by rfl, ?_⟩) (by assumption) ?_
      · (intro w1 hSw; (try dsimp only at hSw); go_simp)
      simp only [List.getElem_toArray, List.getElem_cons_succ, List.getElem_cons_zero, Act.put, List.setIfInBounds_toArray, List.set_cons_zero, List.set_cons_succ]
      refine wpAnyH_take (i := 29) (v := .bool true) rfl (by kernel_rfl) (by kernel_rfl) (by kernel_rfl) (fun _ _ _ h => h) (Or.inl ⟨by rfl, ?_⟩) (by assumption) ?_
      · (intro w1 hSw; (try dsimp only at hSw); go_simp)
      simp only [List.getElem_toArray, List.getElem_cons_succ, List.getElem_cons_zero, Act.put, List.setIfInBounds_toArray, List.set_cons_zero, List.set_cons_succ]
      refine wpAnyH_take (i := 30) (v := .bool true) rfl (by kernel_rfl) (by kernel_rfl) (by kernel_rfl) (fun _ _ _ h => h) (Or.inl ⟨by rfl, ?_⟩) (by assumption) ?_
      · (intro w1 hSw; (try dsimp only at hSw); go_simp)
      simp only [List.getElem_toArray, List.getElem_cons_succ, List.getElem_cons_zero, Act.put, List.setIfInBounds_toArray, List.set_cons_zero, List.set_cons_succ]
      refine wpAnyH_done (by kernel_rfl) ?_ _
      refine NoPanic.normal ?_
      have HBz : Hid (Below w.heap.size w w9) := box_below hHeld.1
      clear hHeld
      go_wp2_with fail
      go_ret
      exact ⟨rfl, HBz.out⟩
end Go.Proofs.Ytbcdmammedabmaa
