/- The walk of KeyTotal. -/
import Derived.Test.YtbcdmammedabmabK8
import Derived.Test.YtbcdmammedabmabK9
import Derived.Test.YtbcdmammedabmabRS
namespace Go.Proofs.Ytbcdmammedabmab
open Go.RowKit

theorem less_tr (l : List UInt8) : ∀ m n, Op.bytesLess l m = true → Op.bytesLess m n = true → Op.bytesLess l n = true := by
  induction l with
  | nil => intro m n h1 h2; cases n with
    | nil => cases m <;> simp [Op.bytesLess] at h2
    | cons z n => rfl
  | cons x l ih =>
    intro m n h1 h2
    cases m with
    | nil => simp [Op.bytesLess] at h1
    | cons y m =>
      cases n with
      | nil => simp [Op.bytesLess] at h2
      | cons z n =>
        rcases Nat.lt_trichotomy x.toNat y.toNat with a | a | a
        · rcases Nat.lt_trichotomy y.toNat z.toNat with b | b | b
          · exact less_lt _ _ (by omega)
          · exact less_lt _ _ (by omega)
          · rw [less_gt _ _ b] at h2; simp at h2
        · obtain rfl := u8_eq a
          rcases Nat.lt_trichotomy x.toNat z.toNat with b | b | b
          · exact less_lt _ _ b
          · obtain rfl := u8_eq b
            rw [less_same] at h1 h2 ⊢; exact ih m n h1 h2
          · rw [less_gt _ _ b] at h2; simp at h2
        · rw [less_gt _ _ a] at h1; simp at h1
theorem cmpL_less (L M : List ByteArray) : Op.bytesLess (jn L) (jn M) = decide (cmpL L M < 0) := by
  unfold jn
  rw [jb_less]
  by_cases h : cmpL L M = 0
  · rw [if_pos h, h]; rfl
  · rw [if_neg h]
theorem jn_inj {L M : List ByteArray} (h : jn L = jn M) : L = M := (jb_inj L M [] [] h).1
theorem lessK_iff (a b : Ky) : lessK a b = true ↔ (Op.bytesLess (jn a.L) (jn b.L) = true ∨ a.L = b.L ∧ (a.f < b.f ∨ a.f = b.f ∧ a.g < b.g)) := by
  unfold lessK
  rw [decide_eq_true_iff, or3_neg, cmpL_less, decide_eq_true_iff, cmpL_zero]
theorem lessK_irr (a : Ky) : lessK a a = false := by
  rw [← Bool.not_eq_true, lessK_iff, less_irr]
  rintro (h | ⟨_, h⟩)
  · simp at h
  · omega
theorem lessK_asym (a b : Ky) (h : lessK a b = true) : lessK b a = false := by
  rw [← Bool.not_eq_true, lessK_iff]
  rw [lessK_iff] at h
  rcases h with h | ⟨h1, h2⟩
  · rw [less_asym _ _ h]
    rintro (k | ⟨k, _⟩)
    · simp at k
    · rw [k, less_irr] at h; simp at h
  · rw [h1, less_irr]
    rintro (k | ⟨_, k⟩)
    · simp at k
    · omega
theorem lessK_tot (a b : Ky) : (lessK a b || lessK b a) = !sameK a b := by
  have hs : sameK a b = true ↔ (a.L = b.L ∧ a.f = b.f ∧ a.g = b.g) := by unfold sameK; rw [decide_eq_true_iff, cmpL_zero]
  cases h : sameK a b with
  | true =>
    obtain ⟨h1, h2, h3⟩ := hs.1 h
    have e1 : lessK a b = false := by
      rw [← Bool.not_eq_true, lessK_iff, h1, less_irr]
      rintro (k | ⟨_, k⟩)
      · simp at k
      · omega
    have e2 : lessK b a = false := by
      rw [← Bool.not_eq_true, lessK_iff, h1, less_irr]
      rintro (k | ⟨_, k⟩)
      · simp at k
      · omega
    rw [e1, e2]; rfl
  | false =>
    have hn : ¬ (a.L = b.L ∧ a.f = b.f ∧ a.g = b.g) := fun k => by rw [hs.2 k] at h; simp at h
    show (lessK a b || lessK b a) = true
    rw [Bool.or_eq_true, lessK_iff, lessK_iff]
    by_cases e : a.L = b.L
    · have : ¬ (a.f = b.f ∧ a.g = b.g) := fun k => hn ⟨e, k⟩
      rcases Int.lt_trichotomy a.f b.f with k | k | k
      · left; right; exact ⟨e, by omega⟩
      · rcases Int.lt_trichotomy a.g b.g with q | q | q
        · left; right; exact ⟨e, by omega⟩
        · exact absurd ⟨k, q⟩ this
        · right; right; exact ⟨e.symm, by omega⟩
      · right; right; exact ⟨e.symm, by omega⟩
    · cases k : Op.bytesLess (jn a.L) (jn b.L) with
      | true => left; left; rfl
      | false => right; left; exact less_tot _ _ (fun q => e (jn_inj q)) k
theorem lessK_tr (a b c : Ky) (h1 : lessK a b = true) (h2 : lessK b c = true) : lessK a c = true := by
  rw [lessK_iff] at h1 h2 ⊢
  rcases h1 with h1 | ⟨e1, h1⟩
  · rcases h2 with h2 | ⟨e2, h2⟩
    · left; exact less_tr _ _ _ h1 h2
    · left; rw [← e2]; exact h1
  · rcases h2 with h2 | ⟨e2, h2⟩
    · left; rw [e1]; exact h2
    · right; exact ⟨e1.trans e2, by omega⟩
theorem kbox3 {w w' : World} {x y z x' y' z' x'' y'' z'' : Value} {t t' t'' : TypeId} (h : Below (w.heap.size + 3) (((w.alloc (.cells #[x, y, z] t)).alloc (.cells #[x', y', z'] t')).alloc (.cells #[x'', y'', z''] t'')) w') :
    (w'.cell? ⟨w.heap.size, 0, none⟩ = some x ∧ w'.cell? ⟨w.heap.size, 1, none⟩ = some y ∧ w'.cell? ⟨w.heap.size, 2, none⟩ = some z) ∧ (w'.cell? ⟨w.heap.size + 1, 0, none⟩ = some x' ∧ w'.cell? ⟨w.heap.size + 1, 1, none⟩ = some y' ∧ w'.cell? ⟨w.heap.size + 1, 2, none⟩ = some z') ∧ (w'.cell? ⟨w.heap.size + 1 + 1, 0, none⟩ = some x'' ∧ w'.cell? ⟨w.heap.size + 1 + 1, 1, none⟩ = some y'' ∧ w'.cell? ⟨w.heap.size + 1 + 1, 2, none⟩ = some z'') := by
  have h2 : Below (w.heap.size + 2) ((w.alloc (.cells #[x, y, z] t)).alloc (.cells #[x', y', z'] t')) w' := ((Below.refl _ _).alloc (by simp) _).trans (h.mono (by omega))
  have h3 := kbox (w := (w.alloc (.cells #[x, y, z] t)).alloc (.cells #[x', y', z'] t')) (w' := w') (x := x'') (y := y'') (z := z'') (t := t'') (by simpa using h)
  obtain ⟨q1, q2⟩ := kbox2 h2
  exact ⟨q1, q2, by simpa using h3⟩
theorem box3_below {w w' : World} {o o' o'' : Obj} (h : Below (w.heap.size + 3) (((w.alloc o).alloc o').alloc o'') w') : Below w.heap.size w w' := ((((Below.refl _ _).alloc (Nat.le_refl _) o).alloc (by simp) o').alloc (by simp; omega) o'').trans (h.mono (by omega))
set_option maxRecDepth 100000 in
set_option maxHeartbeats 2000000 in
theorem total_walk (a b c : Ky) (w : World) (ha : KLies a w) (hb : KLies b w) (hc : KLies c w) :
    Calls Try.prog 3 #[a.val, b.val, c.val] w fun e w' => e = .returned (.bool true) ∧ Below w.heap.size w w' := by
  obtain ⟨a1, c1, hv1, _⟩ := ha.r.form
  obtain ⟨a2, c2, hv2, _⟩ := hb.r.form
  obtain ⟨a3, c3, hv3, _⟩ := hc.r.form
  obtain ⟨v, L, f, g⟩ := a
  obtain ⟨v', L', f', g'⟩ := b
  obtain ⟨v'', L'', f'', g''⟩ := c
  simp only at hv1 hv2 hv3
  subst hv1 hv2 hv3
  have HKA : Hid (KLies ⟨.slice a1 L.length c1, L, f, g⟩ w) := ha
  have HKB : Hid (KLies ⟨.slice a2 L'.length c2, L', f', g'⟩ w) := hb
  have HKC : Hid (KLies ⟨.slice a3 L''.length c3, L'', f'', g''⟩ w) := hc
  clear ha hb hc
  unfold Ky.val
  simp only
  obtain ⟨W, HW⟩ := hid_ex (((w.alloc (.cells #[.slice a1 L.length c1, .int .i64 f, .int .i64 g] 24)).alloc (.cells #[.slice a2 L'.length c2, .int .i64 f', .int .i64 g'] 24)).alloc (.cells #[.slice a3 L''.length c3, .int .i64 f'', .int .i64 g''] 24))
  have HX : Hid (Below (w.heap.size + 3) (((w.alloc (.cells #[.slice a1 L.length c1, .int .i64 f, .int .i64 g] 24)).alloc (.cells #[.slice a2 L'.length c2, .int .i64 f', .int .i64 g'] 24)).alloc (.cells #[.slice a3 L''.length c3, .int .i64 f'', .int .i64 g''] 24)) W) := by rw [HW.out]; exact Below.refl _ _
  have HZ : Hid (w.heap.size + 3 ≤ W.heap.size) := by have := HX.out.size; unfold Hid; simpa using this
  have k := kbox3 HX.out
  obtain ⟨⟨k0, k1, k2⟩, ⟨k3, k4, k5⟩, k6, k7, k8⟩ := k
  go_enter Try.func3, Try.ntmps3
  go_wp2_with fail
  rw [← HW.out]
  refine (long_any _ L _ (HKA.out.below (box3_below HX.out)).r).mono ?_
  rintro e w1 ⟨rfl, hw⟩
  subst w1
  clear HW
  cases hl : longB L with
  | true =>
    clear hl
    go_wp2_with fail
    refine (alive_any _).mono ?_
    rintro e w2 ⟨rfl, hb2⟩
    have HB2 : Hid (Below w.heap.size w w2) := box3_below (HX.out.trans (hb2.mono HZ.out))
    clear hb2 k0 k1 k2 k3 k4 k5 k6 k7 k8
    go_wp2_with fail
    go_ret
    exact ⟨rfl, HB2.out⟩
  | false =>
    clear hl
    go_wp2_with fail
    refine (long_any _ L' _ (HKB.out.below (box3_below HX.out)).r).mono ?_
    rintro e w1 ⟨rfl, hw⟩
    subst w1
    cases hl : longB L' with
    | true =>
      clear hl
      go_wp2_with fail
      refine (alive_any _).mono ?_
      rintro e w2 ⟨rfl, hb2⟩
      have HB2 : Hid (Below w.heap.size w w2) := box3_below (HX.out.trans (hb2.mono HZ.out))
      clear hb2 k0 k1 k2 k3 k4 k5 k6 k7 k8
      go_wp2_with fail
      go_ret
      exact ⟨rfl, HB2.out⟩
    | false =>
      clear hl
      go_wp2_with fail
      refine (long_any _ L'' _ (HKC.out.below (box3_below HX.out)).r).mono ?_
      rintro e w1 ⟨rfl, hw⟩
      subst w1
      cases hl : longB L'' with
      | true =>
        clear hl
        go_wp2_with fail
        refine (alive_any _).mono ?_
        rintro e w2 ⟨rfl, hb2⟩
        have HB2 : Hid (Below w.heap.size w w2) := box3_below (HX.out.trans (hb2.mono HZ.out))
        clear hb2 k0 k1 k2 k3 k4 k5 k6 k7 k8
        go_wp2_with fail
        go_ret
        exact ⟨rfl, HB2.out⟩
      | false =>
        clear hl k0 k1 k2 k3 k4 k5 k6 k7 k8
        go_wp2_with fail
        refine wp_region_noPanic ?_
        refine wp_region_held_drew (S := (fun w' => Below (w.heap.size + 3) (((w.alloc (.cells #[.slice a1 L.length c1, .int .i64 f, .int .i64 g] 24)).alloc (.cells #[.slice a2 L'.length c2, .int .i64 f', .int .i64 g'] 24)).alloc (.cells #[.slice a3 L''.length c3, .int .i64 f'', .int .i64 g''] 24)) w')) (by kernel_rfl) ?_ (fun hHeld => ?_)
        · exact HX.out.drew
        refine wpAnyH_take (i := 0) (v := .agg #[.slice a1 L.length c1, .int .i64 f, .int .i64 g]) rfl (by kernel_rfl) (by kernel_rfl) (by kernel_rfl) (fun _ _ _ h => h) (Or.inl ⟨by rfl, ?_⟩) (by assumption) ?_
        · (intro w1 hSw; (try dsimp only at hSw); obtain ⟨⟨k0, k1, k2⟩, ⟨k3, k4, k5⟩, k6, k7, k8⟩ := kbox3 hSw; go_simp)
        simp only [List.getElem_toArray, List.getElem_cons_zero, Act.put, List.setIfInBounds_toArray, List.set_cons_zero, List.set_cons_succ]
        refine wpAnyH_take (i := 1) (v := .agg #[.slice a2 L'.length c2, .int .i64 f', .int .i64 g']) rfl (by kernel_rfl) (by kernel_rfl) (by kernel_rfl) (fun _ _ _ h => h) (Or.inl ⟨by rfl, ?_⟩) (by assumption) ?_
        · (intro w1 hSw; (try dsimp only at hSw); obtain ⟨⟨k0, k1, k2⟩, ⟨k3, k4, k5⟩, k6, k7, k8⟩ := kbox3 hSw; go_simp)
        simp only [List.getElem_toArray, List.getElem_cons_succ, List.getElem_cons_zero, Act.put, List.setIfInBounds_toArray, List.set_cons_zero, List.set_cons_succ]
        refine wpAnyH_take (i := 3) (v := .agg #[.slice a2 L'.length c2, .int .i64 f', .int .i64 g']) rfl (by kernel_rfl) (by kernel_rfl) (by kernel_rfl) (fun _ _ _ h => h) (Or.inl ⟨by rfl, ?_⟩) (by assumption) ?_
        · (intro w1 hSw; (try dsimp only at hSw); obtain ⟨⟨k0, k1, k2⟩, ⟨k3, k4, k5⟩, k6, k7, k8⟩ := kbox3 hSw; go_simp)
        simp only [List.getElem_toArray, List.getElem_cons_succ, List.getElem_cons_zero, Act.put, List.setIfInBounds_toArray, List.set_cons_zero, List.set_cons_succ]
        refine wpAnyH_take (i := 4) (v := .agg #[.slice a1 L.length c1, .int .i64 f, .int .i64 g]) rfl (by kernel_rfl) (by kernel_rfl) (by kernel_rfl) (fun _ _ _ h => h) (Or.inl ⟨by rfl, ?_⟩) (by assumption) ?_
        · (intro w1 hSw; (try dsimp only at hSw); obtain ⟨⟨k0, k1, k2⟩, ⟨k3, k4, k5⟩, k6, k7, k8⟩ := kbox3 hSw; go_simp)
        simp only [List.getElem_toArray, List.getElem_cons_succ, List.getElem_cons_zero, Act.put, List.setIfInBounds_toArray, List.set_cons_zero, List.set_cons_succ]
        refine wpAnyH_ready (rs := [2]) (by kernel_rfl) (by simp) ?_
        refine AllReadyH.cons (o := _) rfl (fun K hK => ?_) AllReadyH.nil
        go_simp
        refine (less_any ⟨.slice a1 L.length c1, L, f, g⟩ ⟨.slice a2 L'.length c2, L', f', g'⟩ _ (HKA.out.below (box3_below hHeld)) (HKB.out.below (box3_below hHeld))).mono ?_
        rintro e w5 ⟨rfl, hb5⟩
        have hs5 : w.heap.size + 3 ≤ W.drew.heap.size := HZ.out
        go_wp2_with fail
        refine hK.out _ _ ?_ (fun hHeld => ?_)
        · exact hHeld.trans (hb5.mono hs5)
        clear hK K
        have HS5 : Hid (w.heap.size + 3 ≤ w5.heap.size) := Nat.le_trans hs5 hb5.size
        clear hb5 hs5
        refine wpAnyH_ready (rs := [5]) (by kernel_rfl) (by simp) ?_
        refine AllReadyH.cons (o := _) rfl (fun K hK => ?_) AllReadyH.nil
        go_simp
        refine (less_any ⟨.slice a2 L'.length c2, L', f', g'⟩ ⟨.slice a1 L.length c1, L, f, g⟩ _ (HKB.out.below (box3_below hHeld)) (HKA.out.below (box3_below hHeld))).mono ?_
        rintro e w6 ⟨rfl, hb6⟩
        go_wp2_with fail
        refine hK.out _ _ ?_ (fun hHeld => ?_)
        · exact hHeld.trans (hb6.mono HS5.out)
        clear hK K
        have HS6 : Hid (w.heap.size + 3 ≤ w6.heap.size) := Nat.le_trans HS5.out hb6.size
        clear hb6
        refine wpAnyH_take (i := 6) (v := .bool (lessK ⟨.slice a1 L.length c1, L, f, g⟩ ⟨.slice a2 L'.length c2, L', f', g'⟩)) rfl (by kernel_rfl) (by kernel_rfl) (by kernel_rfl) (fun _ _ _ h => h) (Or.inl ⟨by rfl, ?_⟩) (by assumption) ?_
        · (intro w1 hSw; (try dsimp only at hSw); go_simp)
        simp only [List.getElem_toArray, List.getElem_cons_succ, List.getElem_cons_zero, Act.put, List.setIfInBounds_toArray, List.set_cons_zero, List.set_cons_succ]
        refine wpAnyH_take (i := 7) (v := .bool (lessK ⟨.slice a2 L'.length c2, L', f', g'⟩ ⟨.slice a1 L.length c1, L, f, g⟩)) rfl (by kernel_rfl) (by kernel_rfl) (by kernel_rfl) (fun _ _ _ h => h) (Or.inl ⟨by rfl, ?_⟩) (by assumption) ?_
        · (intro w1 hSw; (try dsimp only at hSw); go_simp)
        simp only [List.getElem_toArray, List.getElem_cons_succ, List.getElem_cons_zero, Act.put, List.setIfInBounds_toArray, List.set_cons_zero, List.set_cons_succ]
        refine wpAnyH_done (by kernel_rfl) ?_ _
        refine NoPanic.normal ?_
        have HX6 : Hid (Below (w.heap.size + 3) (((w.alloc (.cells #[.slice a1 L.length c1, .int .i64 f, .int .i64 g] 24)).alloc (.cells #[.slice a2 L'.length c2, .int .i64 f', .int .i64 g'] 24)).alloc (.cells #[.slice a3 L''.length c3, .int .i64 f'', .int .i64 g''] 24)) w6) := hHeld
        clear hHeld HS5 HX HZ
        have I1 : Hid (lessK ⟨.slice a1 L.length c1, L, f, g⟩ ⟨.slice a1 L.length c1, L, f, g⟩ = false) := lessK_irr _
        have I2 : Hid (lessK ⟨.slice a1 L.length c1, L, f, g⟩ ⟨.slice a2 L'.length c2, L', f', g'⟩ = true → lessK ⟨.slice a2 L'.length c2, L', f', g'⟩ ⟨.slice a1 L.length c1, L, f, g⟩ = false) := lessK_asym _ _
        have I3 : Hid ((lessK ⟨.slice a1 L.length c1, L, f, g⟩ ⟨.slice a2 L'.length c2, L', f', g'⟩ || lessK ⟨.slice a2 L'.length c2, L', f', g'⟩ ⟨.slice a1 L.length c1, L, f, g⟩) = !sameK ⟨.slice a1 L.length c1, L, f, g⟩ ⟨.slice a2 L'.length c2, L', f', g'⟩) := lessK_tot _ _
        have I4 : Hid (lessK ⟨.slice a1 L.length c1, L, f, g⟩ ⟨.slice a2 L'.length c2, L', f', g'⟩ = true → lessK ⟨.slice a2 L'.length c2, L', f', g'⟩ ⟨.slice a3 L''.length c3, L'', f'', g''⟩ = true → lessK ⟨.slice a1 L.length c1, L, f, g⟩ ⟨.slice a3 L''.length c3, L'', f'', g''⟩ = true) := lessK_tr _ _ _
        generalize lessK ⟨.slice a1 L.length c1, L, f, g⟩ ⟨.slice a2 L'.length c2, L', f', g'⟩ = p at *
        generalize lessK ⟨.slice a2 L'.length c2, L', f', g'⟩ ⟨.slice a1 L.length c1, L, f, g⟩ = q at *
        go_wp2_with fail
        refine (alive_any _).mono ?_
        rintro e w7 ⟨rfl, hb7⟩
        have HX7 : Hid (Below (w.heap.size + 3) (((w.alloc (.cells #[.slice a1 L.length c1, .int .i64 f, .int .i64 g] 24)).alloc (.cells #[.slice a2 L'.length c2, .int .i64 f', .int .i64 g'] 24)).alloc (.cells #[.slice a3 L''.length c3, .int .i64 f'', .int .i64 g''] 24)) w7) := HX6.out.trans (hb7.mono HS6.out)
        have HS7 : Hid (w.heap.size + 3 ≤ w7.heap.size) := Nat.le_trans HS6.out hb7.size
        clear hb7 HX6 HS6
        obtain ⟨⟨k0, k1, k2⟩, ⟨k3, k4, k5⟩, k6, k7, k8⟩ := kbox3 HX7.out
        go_wp2_with fail
        refine (less_any ⟨.slice a1 L.length c1, L, f, g⟩ ⟨.slice a1 L.length c1, L, f, g⟩ _ (HKA.out.below (box3_below HX7.out)) (HKA.out.below (box3_below HX7.out))).mono ?_
        rw [I1.out]
        rintro e w8 ⟨rfl, hb8⟩
        have HX8 : Hid (Below (w.heap.size + 3) (((w.alloc (.cells #[.slice a1 L.length c1, .int .i64 f, .int .i64 g] 24)).alloc (.cells #[.slice a2 L'.length c2, .int .i64 f', .int .i64 g'] 24)).alloc (.cells #[.slice a3 L''.length c3, .int .i64 f'', .int .i64 g''] 24)) w8) := HX7.out.trans (hb8.mono HS7.out)
        have HS8 : Hid (w.heap.size + 3 ≤ w8.heap.size) := Nat.le_trans HS7.out hb8.size
        clear hb8 HX7 HS7 k0 k1 k2 k3 k4 k5 k6 k7 k8
        obtain ⟨⟨k0, k1, k2⟩, ⟨k3, k4, k5⟩, k6, k7, k8⟩ := kbox3 HX8.out
        cases p with
        | true =>
          have hq := I2.out rfl
          subst hq
          go_wp2_with fail
          refine (same_any ⟨.slice a1 L.length c1, L, f, g⟩ ⟨.slice a2 L'.length c2, L', f', g'⟩ _ (HKA.out.below (box3_below HX8.out)) (HKB.out.below (box3_below HX8.out))).mono ?_
          rintro e w9 ⟨rfl, hb9⟩
          have HX9 : Hid (Below (w.heap.size + 3) (((w.alloc (.cells #[.slice a1 L.length c1, .int .i64 f, .int .i64 g] 24)).alloc (.cells #[.slice a2 L'.length c2, .int .i64 f', .int .i64 g'] 24)).alloc (.cells #[.slice a3 L''.length c3, .int .i64 f'', .int .i64 g''] 24)) w9) := HX8.out.trans (hb9.mono HS8.out)
          have HS9 : Hid (w.heap.size + 3 ≤ w9.heap.size) := Nat.le_trans HS8.out hb9.size
          clear hb9 HX8 HS8 k0 k1 k2 k3 k4 k5 k6 k7 k8
          obtain ⟨⟨k0, k1, k2⟩, ⟨k3, k4, k5⟩, k6, k7, k8⟩ := kbox3 HX9.out
          have hsm : sameK ⟨.slice a1 L.length c1, L, f, g⟩ ⟨.slice a2 L'.length c2, L', f', g'⟩ = false := by have := I3.out; simpa using this
          rw [hsm]
          clear hsm I3 I2
          go_wp2_with fail
          refine (less_any ⟨.slice a2 L'.length c2, L', f', g'⟩ ⟨.slice a3 L''.length c3, L'', f'', g''⟩ _ (HKB.out.below (box3_below HX9.out)) (HKC.out.below (box3_below HX9.out))).mono ?_
          rintro e w10 ⟨rfl, hb10⟩
          have HX10 : Hid (Below (w.heap.size + 3) (((w.alloc (.cells #[.slice a1 L.length c1, .int .i64 f, .int .i64 g] 24)).alloc (.cells #[.slice a2 L'.length c2, .int .i64 f', .int .i64 g'] 24)).alloc (.cells #[.slice a3 L''.length c3, .int .i64 f'', .int .i64 g''] 24)) w10) := HX9.out.trans (hb10.mono HS9.out)
          have HS10 : Hid (w.heap.size + 3 ≤ w10.heap.size) := Nat.le_trans HS9.out hb10.size
          clear hb10 HX9 HS9 k0 k1 k2 k3 k4 k5 k6 k7 k8
          obtain ⟨⟨k0, k1, k2⟩, ⟨k3, k4, k5⟩, k6, k7, k8⟩ := kbox3 HX10.out
          cases hbc : lessK ⟨.slice a2 L'.length c2, L', f', g'⟩ ⟨.slice a3 L''.length c3, L'', f'', g''⟩ with
          | true =>
            have HAC : Hid (lessK ⟨.slice a1 L.length c1, L, f, g⟩ ⟨.slice a3 L''.length c3, L'', f'', g''⟩ = true) := by have h := I4.out; simp at h; exact h hbc
            clear hbc I4
            go_wp2_with fail
            refine (less_any ⟨.slice a1 L.length c1, L, f, g⟩ ⟨.slice a3 L''.length c3, L'', f'', g''⟩ _ (HKA.out.below (box3_below HX10.out)) (HKC.out.below (box3_below HX10.out))).mono ?_
            rw [HAC.out]
            rintro e w11 ⟨rfl, hb11⟩
            have HB11 : Hid (Below w.heap.size w w11) := box3_below (HX10.out.trans (hb11.mono HS10.out))
            clear hb11 k0 k1 k2 k3 k4 k5 k6 k7 k8
            go_wp2_with fail
            go_ret
            exact ⟨rfl, HB11.out⟩
          | false =>
            have HB10 : Hid (Below w.heap.size w w10) := box3_below HX10.out
            clear hbc I4 k0 k1 k2 k3 k4 k5 k6 k7 k8
            go_wp2_with fail
            go_ret
            exact ⟨rfl, HB10.out⟩
        | false =>
          cases q with
          | true =>
            go_wp2_with fail
            refine (same_any ⟨.slice a1 L.length c1, L, f, g⟩ ⟨.slice a2 L'.length c2, L', f', g'⟩ _ (HKA.out.below (box3_below HX8.out)) (HKB.out.below (box3_below HX8.out))).mono ?_
            rintro e w9 ⟨rfl, hb9⟩
            have HB9 : Hid (Below w.heap.size w w9) := box3_below (HX8.out.trans (hb9.mono HS8.out))
            have hsm : sameK ⟨.slice a1 L.length c1, L, f, g⟩ ⟨.slice a2 L'.length c2, L', f', g'⟩ = false := by have := I3.out; simpa using this
            rw [hsm]
            clear hsm I3 I2 I4 hb9 k0 k1 k2 k3 k4 k5 k6 k7 k8
            go_wp2_with fail
            go_ret
            exact ⟨rfl, HB9.out⟩
          | false =>
            go_wp2_with fail
            refine (same_any ⟨.slice a1 L.length c1, L, f, g⟩ ⟨.slice a2 L'.length c2, L', f', g'⟩ _ (HKA.out.below (box3_below HX8.out)) (HKB.out.below (box3_below HX8.out))).mono ?_
            rintro e w9 ⟨rfl, hb9⟩
            have HB9 : Hid (Below w.heap.size w w9) := box3_below (HX8.out.trans (hb9.mono HS8.out))
            have hsm : sameK ⟨.slice a1 L.length c1, L, f, g⟩ ⟨.slice a2 L'.length c2, L', f', g'⟩ = true := by have := I3.out; simpa using this
            rw [hsm]
            clear hsm I3 I2 I4 hb9 k0 k1 k2 k3 k4 k5 k6 k7 k8
            go_wp2_with fail
            go_ret
            exact ⟨rfl, HB9.out⟩
end Go.Proofs.Ytbcdmammedabmab
