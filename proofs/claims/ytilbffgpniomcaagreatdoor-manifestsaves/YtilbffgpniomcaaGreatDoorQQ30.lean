/- R6 R7 MN2 ML4, joined. -/
import Derived.Test.YtilbffgpniomcaaGreatDoorQQ6
import Derived.Test.YtilbffgpniomcaaGreatDoorQQ21
import Derived.Test.YtilbffgpniomcaaGreatDoorQQ22
import Derived.Test.YtilbffgpniomcaaGreatDoorQQ23
import Derived.Test.YtilbffgpniomcaaGreatDoorQQ25
import Derived.Test.YtilbffgpniomcaaGreatDoorQQ29
/- The reference's Frame and Next. -/
namespace Go.Proofs.YtilbffgpniomcaaGreatDoor
open Go.RowKit

set_option maxRecDepth 100000 in
set_option maxHeartbeats 1000000 in
theorem refFrame_any (v : Value) (l : List UInt8) (hl : l.length ≤ 65535) (w : World) (hr : Reads w v l) :
    Calls Tryz.prog 24 #[v] w fun e w' => ∃ v', e = .returned (.tuple #[v', .int .i64 0]) ∧ Own w' w.heap.size v' (frm l) ∧ Below w.heap.size w w' := by
  obtain ⟨a, cap, rfl, _⟩ := hr.form
  have g1 : ¬ (65535 : Int) < (l.length : Int) := by omega
  have hwr : IntKind.u32.wrap (l.length : Int) = (l.length : Int) := by simp [IntKind.wrap, IntKind.bits, IntKind.signed]; omega
  have HR : Hid (Reads w (.slice a l.length cap) l) := hr
  clear hr
  go_enter Tryz.func24, Tryz.ntmps24
  go_wp2_with fail
  refine (refFour_any l.length (by omega) _).mono ?_
  rintro e w1 ⟨v1, rfl, HO1, hb1⟩
  have HB1 : Hid (Below w.heap.size w w1) := hb1
  have hr1 : Reads w1 _ l := HR.out.below hb1
  have hsz1 := hb1.size
  obtain ⟨M, HM⟩ := hid_ex (four l.length ++ l)
  have hml : M.length = 4 + l.length := by rw [HM.out, List.length_append]; rfl
  have HML : Hid (M.length = 4 + l.length) := hml
  clear hb1 hml
  go_wp2_with (at_builtin; refine wpList_app rfl _ _ rfl w.heap.size _ _ (four l.length) l M HM.out rfl rfl HO1 hr1 (by simp [four_len]; omega) hsz1 ?_)
  intro v2 w2 HO2 hb2
  have HB2 : Hid (Below w.heap.size w w2) := HB1.out.trans hb2.out
  have HP2 : Hid (Own w2 w.heap.size v2 M) := HO2
  clear HO1 hr1 hb2 HB1 hsz1 HO2
  go_wp2_with fail
  refine (refSum_any _ M _ HP2.out.reads).mono ?_
  rintro e w3 ⟨rfl, hw⟩
  subst w3
  go_wp2_with fail
  refine (refFour_any (mor 0 M) (mor_lt _ _) _).mono ?_
  rintro e w3 ⟨v3, rfl, HO3, hb3⟩
  have HB3 : Hid (Below w.heap.size w w3) := HB2.out.trans (hb3.mono HB2.out.size)
  have HP3 : Hid (Own w3 w.heap.size v2 M) := HP2.out.below hb3
  have hsz3 := HB3.out.size
  have hr3 := HO3.reads
  clear hb3 HB2 HP2 HO3
  obtain ⟨G, HG⟩ := hid_ex (M ++ four (mor 0 M))
  go_wp2_with (at_builtin; refine wpList_app rfl _ _ rfl w.heap.size _ _ M (four (mor 0 M)) G HG.out rfl rfl HP3.out hr3 (by rw [HML.out]; simp [four_len]; omega) hsz3 ?_)
  intro v4 w4 HO4 hb4
  have HB4 : Hid (Below w.heap.size w w4) := HB3.out.trans hb4.out
  have HP4 : Hid (Own w4 w.heap.size v4 (frm l)) := by
    have : frm l = G := by rw [HG.out, HM.out]; rfl
    rw [this]; exact HO4
  clear HO4 hb4 HB3 HP3 hr3 HG HM HML
  go_wp2_with fail
  go_ret2
  exact ⟨_, rfl, HP4.out, HB4.out⟩
set_option maxRecDepth 100000 in
set_option maxHeartbeats 1000000 in
theorem refFrame_long (v : Value) (l : List UInt8) (hl : 65535 < l.length) (w : World) (hr : Reads w v l) :
    Calls Tryz.prog 24 #[v] w fun e w' => e = .returned (.tuple #[.slice none 0 0, .int .i64 2]) ∧ w' = w := by
  obtain ⟨a, cap, rfl, _⟩ := hr.form
  clear hr
  have h1 : (65535 : Int) < (l.length : Int) := by omega
  go_enter Tryz.func24, Tryz.ntmps24
  go_wp2_with fail
  go_ret2
  exact ⟨rfl, rfl⟩
theorem four_vle : ∀ (t : List UInt8), t.length = 4 → four (vle t) = t
  | [a, b, c, d], _ => by
    have ha := a.toNat_lt
    have hb := b.toNat_lt
    have hc := c.toNat_lt
    have hd := d.toNat_lt
    simp only [four, vle, List.cons.injEq, and_true]
    refine ⟨?_, ?_, ?_, ?_⟩ <;> (apply UInt8.toNat_inj.1; rw [UInt8.toNat_ofNat']; omega)
theorem four_iff (t : List UInt8) (h : t.length = 4) (x : Nat) (hx : x < 4294967296) : four x = t ↔ vle t = x := by
  constructor
  · intro e; rw [← e]; exact vle_four' x hx
  · intro e; rw [← e]; exact four_vle t h
set_option maxRecDepth 100000 in
set_option maxHeartbeats 1000000 in
theorem refNext_any (v : Value) (l : List UInt8) (hll : l.length ≤ 100000) (w : World) (hr : Reads w v l) :
    Calls Tryz.prog 77 #[v] w fun e w' => ∃ v', e = .returned (.tuple #[v', .int .i64 ((nxF l).2.1 : Nat), .int .i64 (nxF l).2.2]) ∧ Own w' w.heap.size v' (nxF l).1 ∧ Below w.heap.size w w' := by
  obtain ⟨a, cap, rfl, _⟩ := hr.form
  by_cases h4 : (l.length : Int) < 4
  · have e : nxF l = ([], 0, 10) := by rw [nxF, if_pos (by omega)]
    rw [e]
    clear hr e
    go_enter Tryz.func77, Tryz.ntmps77
    go_wp2_with fail
    refine bodyPost_ret (results_tmp3 rfl _ _ _) rfl ?_
    exact ⟨_, rfl, Own.nil _ _, Below.refl _ _⟩
  · obtain ⟨n, HN⟩ := hid_ex (vle (l.take 4))
    have HR : Hid (Reads w (.slice a l.length cap) l) := hr
    have hn : n < 4294967296 := by rw [HN.out]; exact vle_four_lt (by simp; omega)
    have hnum := refNumber_any _ l (by omega) _ hr
    rw [← HN.out] at hnum
    have HNU : Hid _ := hnum
    clear hr hnum
    by_cases h5 : (65535 : Int) < (n : Int)
    · have e : nxF l = ([], 0, 2) := by rw [nxF, if_neg (by omega), ← HN.out, if_pos (by omega)]
      rw [e]
      clear e HN
      go_enter Tryz.func77, Tryz.ntmps77
      go_wp2_with fail
      refine Calls.mono HNU.out ?_
      rintro e w1 ⟨rfl, hb1⟩
      have HB1 : Hid (Below w.heap.size w w1) := hb1
      clear hb1
      go_wp2_with fail
      refine bodyPost_ret (results_tmp3 rfl _ _ _) rfl ?_
      exact ⟨_, rfl, Own.nil _ _, HB1.out⟩
    · by_cases h6 : (l.length : Int) < 8 + (n : Int)
      · have e : nxF l = ([], 0, 10) := by rw [nxF, if_neg (by omega), ← HN.out, if_neg (by omega), if_pos (by omega)]
        rw [e]
        clear e HN
        go_enter Tryz.func77, Tryz.ntmps77
        go_wp2_with fail
        refine Calls.mono HNU.out ?_
        rintro e w1 ⟨rfl, hb1⟩
        have HB1 : Hid (Below w.heap.size w w1) := hb1
        clear hb1
        go_wp2_with fail
        refine bodyPost_ret (results_tmp3 rfl _ _ _) rfl ?_
        exact ⟨_, rfl, Own.nil _ _, HB1.out⟩
      · obtain ⟨b, off, rfl, hb, _⟩ := HR.out.at 0 (by omega)
        have hcap := HR.out.cap (by omega)
        have j1 : (4 : Int) + (n : Int) ≤ (cap : Int) := by omega
        have j2 : (8 : Int) + (n : Int) ≤ (cap : Int) := by omega
        have j3 : (4 : Int) + (n : Int) ≤ 8 + (n : Int) := by omega
        have j4 : IntKind.i64.wrap (4 + (n : Int)) = 4 + (n : Int) := by simp [IntKind.wrap, IntKind.bits, IntKind.signed]; omega
        have j5 : IntKind.i64.wrap (8 + (n : Int)) = 8 + (n : Int) := by simp [IntKind.wrap, IntKind.bits, IntKind.signed]; omega
        have j6 : (0 : Int) ≤ 4 + (n : Int) := by omega
        have j7 : (0 : Int) ≤ 8 + (n : Int) := by omega
        have j8 : (4 + (n : Int)).toNat = 4 + n := by omega
        have j9 : (8 + (n : Int)).toNat = 8 + n := by omega
        have j10 : ¬ cap = 4 + n := by omega
        have j11 : 8 + n - (4 + n) = 4 := by omega
        obtain ⟨A, HA⟩ := hid_ex (l.take (4 + n))
        obtain ⟨S, HS⟩ := hid_ex ((l.drop (4 + n)).take 4)
        obtain ⟨D, HD⟩ := hid_ex ((l.drop 4).take n)
        have HAR : Hid (∀ w', Below w.heap.size w w' → Reads w' (.slice (some ⟨b, off, none⟩) (4 + n) cap) A) := by
          intro w' hb'; rw [HA.out]; exact (HR.out.below hb').take (by omega)
        have HSR : Hid (∀ w', Below w.heap.size w w' → Reads w' (.slice (some ⟨b, off + (4 + n), none⟩) 4 (cap - (4 + n))) S) := by
          intro w' hb'
          have h := ((HR.out.below hb').drop (c := 4 + n) (by omega) b off rfl).1 (by omega)
          rw [← List.length_drop] at h
          rw [HS.out]; exact h.take (by simp; omega)
        have HDR : Hid (∀ w', Below w.heap.size w w' → Reads w' (.slice (some ⟨b, off + 4, none⟩) n (cap - 4)) D) := by
          intro w' hb'
          have h := ((HR.out.below hb').drop (c := 4) (by omega) b off rfl).1 (by omega)
          rw [← List.length_drop] at h
          rw [HD.out]; exact h.take (by simp; omega)
        have hiff := four_iff S (by rw [HS.out]; simp; omega) (mor 0 A) (mor_lt _ _)
        by_cases hsum : vle S = mor 0 A
        · have e : nxF l = (D, n + 8, 0) := by
            rw [nxF, if_neg (by omega), ← HN.out, if_neg (by omega), if_neg (by omega), ← HS.out, ← HA.out, if_neg (by simpa using hsum), ← HD.out]
          have HE : Hid (four (mor 0 A) = S) := hiff.2 hsum
          have hDl : D.length = n := by rw [HD.out]; simp; omega
          have HDL : Hid (D.length = n) := hDl
          rw [e]
          clear e HN HS HA HD hiff hsum HR hDl
          go_enter Tryz.func77, Tryz.ntmps77
          go_wp2_with fail
          refine Calls.mono HNU.out ?_
          rintro e w1 ⟨rfl, hb1⟩
          have HB1 : Hid (Below w.heap.size w w1) := hb1
          clear hb1
          go_wp2_with fail
          refine wp_region_noPanic ?_
          refine wp_region_held_drew (S := (fun w' => Below w.heap.size w w')) (by kernel_rfl) ?_ (fun hHeld => ?_)
          · exact HB1.out.drew
          refine wpAnyH_take (i := 0) (v := .slice (some ⟨b, off, none⟩) l.length cap) rfl (by kernel_rfl) (by kernel_rfl) (by kernel_rfl) (fun _ _ _ h => h) (Or.inl ⟨by rfl, ?_⟩) (by assumption) ?_
          · (intro w1 hSw; (try dsimp only at hSw); go_simp)
          simp only [List.getElem_toArray, List.getElem_cons_zero, Act.put, List.setIfInBounds_toArray, List.set_cons_zero, List.set_cons_succ]
          refine wpAnyH_take (i := 1) (v := .int .i64 (n : Int)) rfl (by kernel_rfl) (by kernel_rfl) (by kernel_rfl) (fun _ _ _ h => h) (Or.inl ⟨by rfl, ?_⟩) (by assumption) ?_
          · (intro w1 hSw; (try dsimp only at hSw); go_simp)
          simp only [List.getElem_toArray, List.getElem_cons_succ, List.getElem_cons_zero, Act.put, List.setIfInBounds_toArray, List.set_cons_zero, List.set_cons_succ]
          refine wpAnyH_take (i := 2) (v := .int .i64 (4 + (n : Int))) rfl (by kernel_rfl) (by kernel_rfl) (by kernel_rfl) (fun _ _ _ h => h) (Or.inl ⟨by rfl, ?_⟩) (by assumption) ?_
          · (intro w1 hSw; (try dsimp only at hSw); go_simp)
          simp only [List.getElem_toArray, List.getElem_cons_succ, List.getElem_cons_zero, Act.put, List.setIfInBounds_toArray, List.set_cons_zero, List.set_cons_succ]
          refine wpAnyH_take (i := 3) (v := .slice (some ⟨b, off, none⟩) (4 + n) cap) rfl (by kernel_rfl) (by kernel_rfl) (by kernel_rfl) (fun _ _ _ h => h) (Or.inl ⟨by rfl, ?_⟩) (by assumption) ?_
          · (intro w1 hSw; (try dsimp only at hSw); go_simp)
          simp only [List.getElem_toArray, List.getElem_cons_succ, List.getElem_cons_zero, Act.put, List.setIfInBounds_toArray, List.set_cons_zero, List.set_cons_succ]
          refine wpAnyH_take (i := 7) (v := .slice (some ⟨b, off, none⟩) l.length cap) rfl (by kernel_rfl) (by kernel_rfl) (by kernel_rfl) (fun _ _ _ h => h) (Or.inl ⟨by rfl, ?_⟩) (by assumption) ?_
          · (intro w1 hSw; (try dsimp only at hSw); go_simp)
          simp only [List.getElem_toArray, List.getElem_cons_succ, List.getElem_cons_zero, Act.put, List.setIfInBounds_toArray, List.set_cons_zero, List.set_cons_succ]
          refine wpAnyH_take (i := 8) (v := .int .i64 (n : Int)) rfl (by kernel_rfl) (by kernel_rfl) (by kernel_rfl) (fun _ _ _ h => h) (Or.inl ⟨by rfl, ?_⟩) (by assumption) ?_
          · (intro w1 hSw; (try dsimp only at hSw); go_simp)
          simp only [List.getElem_toArray, List.getElem_cons_succ, List.getElem_cons_zero, Act.put, List.setIfInBounds_toArray, List.set_cons_zero, List.set_cons_succ]
          refine wpAnyH_take (i := 9) (v := .int .i64 (4 + (n : Int))) rfl (by kernel_rfl) (by kernel_rfl) (by kernel_rfl) (fun _ _ _ h => h) (Or.inl ⟨by rfl, ?_⟩) (by assumption) ?_
          · (intro w1 hSw; (try dsimp only at hSw); go_simp)
          simp only [List.getElem_toArray, List.getElem_cons_succ, List.getElem_cons_zero, Act.put, List.setIfInBounds_toArray, List.set_cons_zero, List.set_cons_succ]
          refine wpAnyH_take (i := 10) (v := .int .i64 (n : Int)) rfl (by kernel_rfl) (by kernel_rfl) (by kernel_rfl) (fun _ _ _ h => h) (Or.inl ⟨by rfl, ?_⟩) (by assumption) ?_
          · (intro w1 hSw; (try dsimp only at hSw); go_simp)
          simp only [List.getElem_toArray, List.getElem_cons_succ, List.getElem_cons_zero, Act.put, List.setIfInBounds_toArray, List.set_cons_zero, List.set_cons_succ]
          refine wpAnyH_take (i := 11) (v := .int .i64 (8 + (n : Int))) rfl (by kernel_rfl) (by kernel_rfl) (by kernel_rfl) (fun _ _ _ h => h) (Or.inl ⟨by rfl, ?_⟩) (by assumption) ?_
          · (intro w1 hSw; (try dsimp only at hSw); go_simp)
          simp only [List.getElem_toArray, List.getElem_cons_succ, List.getElem_cons_zero, Act.put, List.setIfInBounds_toArray, List.set_cons_zero, List.set_cons_succ]
          refine wpAnyH_take (i := 12) (v := .slice (some ⟨b, off + (4 + n), none⟩) 4 (cap - (4 + n))) rfl (by kernel_rfl) (by kernel_rfl) (by kernel_rfl) (fun _ _ _ h => h) (Or.inl ⟨by rfl, ?_⟩) (by assumption) ?_
          · (intro w1 hSw; (try dsimp only at hSw); go_simp)
          simp only [List.getElem_toArray, List.getElem_cons_succ, List.getElem_cons_zero, Act.put, List.setIfInBounds_toArray, List.set_cons_zero, List.set_cons_succ]
          refine wpAnyH_take (i := 13) (v := .string ⟨S.toArray⟩) rfl (by kernel_rfl) (by kernel_rfl) (by kernel_rfl) (fun _ _ _ h => h) (Or.inl ⟨by rfl, ?_⟩) (by assumption) ?_
          · (intro w1 hSw; (try dsimp only at hSw); have hcv := reads_text (HSR.out _ hSw); go_simp)
          simp only [List.getElem_toArray, List.getElem_cons_succ, List.getElem_cons_zero, Act.put, List.setIfInBounds_toArray, List.set_cons_zero, List.set_cons_succ]
          refine wpAnyH_ready (rs := [4]) (by kernel_rfl) (by simp) ?_
          refine AllReadyH.cons (o := _) rfl (fun K hK => ?_) AllReadyH.nil
          go_simp
          refine (refSum_any _ A _ (HAR.out _ hHeld)).mono ?_
          rintro e w2 ⟨rfl, hw⟩
          subst w2
          go_wp2_with fail
          refine hK.out _ _ ?_ (fun hHeld => ?_)
          · exact hHeld
          clear hK K
          refine wpAnyH_ready (rs := [5]) (by kernel_rfl) (by simp) ?_
          refine AllReadyH.cons (o := _) rfl (fun K hK => ?_) AllReadyH.nil
          go_simp
          refine (refFour_any (mor 0 A) (mor_lt _ _) _).mono ?_
          rintro e w2 ⟨v2, rfl, HO2, hb2⟩
          go_wp2_with fail
          refine hK.out _ _ ?_ (fun hHeld => ?_)
          · exact hHeld.trans (hb2.mono hHeld.size)
          clear hK K
          refine wpAnyH_sub (S' := fun w' => (Below w.heap.size w w') ∧ (Reads w' v2 (four (mor 0 A)) ∧ w2.heap.size ≤ w'.heap.size)) (fun _ h => h.1) _ _ _ _ ?_
          have hHeld : (Below w.heap.size w w2) ∧ (Reads w2 v2 (four (mor 0 A)) ∧ w2.heap.size ≤ w2.heap.size) := ⟨hHeld, ⟨HO2.reads, Nat.le_refl _⟩⟩
          clear hb2 HO2
          refine wpAnyH_take (i := 6) (v := .string ⟨(four (mor 0 A)).toArray⟩) rfl (by kernel_rfl) (by kernel_rfl) (by kernel_rfl) (fun _ _ _ h => h) (Or.inl ⟨by rfl, ?_⟩) (by assumption) ?_
          · (intro w1 hSw; (try dsimp only at hSw); have hcv := reads_text hSw.2.1; go_simp)
          simp only [List.getElem_toArray, List.getElem_cons_succ, List.getElem_cons_zero, Act.put, List.setIfInBounds_toArray, List.set_cons_zero, List.set_cons_succ]
          rw [HE.out] at hHeld ⊢
          refine wpAnyH_take (i := 14) (v := .bool false) rfl (by kernel_rfl) (by kernel_rfl) (by kernel_rfl) (fun _ _ _ h => h) (Or.inl ⟨by rfl, ?_⟩) (by assumption) ?_
          · (intro w1 hSw; (try dsimp only at hSw); go_simp)
          simp only [List.getElem_toArray, List.getElem_cons_succ, List.getElem_cons_zero, Act.put, List.setIfInBounds_toArray, List.set_cons_zero, List.set_cons_succ]
          refine wpAnyH_done (by kernel_rfl) ?_ _
          refine NoPanic.normal ?_
          have HB9 : Hid (Below w.heap.size w _) := hHeld.1
          clear hHeld
          go_wp2_with fail
          refine (copy_any _ D (by rw [HDL.out]; omega) _ (HDR.out _ HB9.out)).mono ?_
          rintro e w3 ⟨v3, rfl, HO3, hb3⟩
          have HB3 : Hid (Below w.heap.size w w3) := HB9.out.trans (hb3.mono HB9.out.size)
          have HP3 : Hid (Own w3 w.heap.size v3 D) := HO3.mono HB9.out.size
          clear hb3 HO3 HB9
          go_wp2_with fail
          refine bodyPost_ret (results_tmp3 rfl _ _ _) rfl ?_
          exact ⟨v3, tup3 (by omega), HP3.out, HB3.out⟩
        · have e : nxF l = ([], 0, 20) := by
            rw [nxF, if_neg (by omega), ← HN.out, if_neg (by omega), if_neg (by omega), ← HS.out, ← HA.out, if_pos (by simpa using hsum)]
          have hne : (four (mor 0 A) == S) = false := by
            simp only [beq_eq_false_iff_ne]
            exact fun h => hsum (hiff.1 h)
          rw [e]
          clear e HN HS HA HD hiff hsum HR
          go_enter Tryz.func77, Tryz.ntmps77
          go_wp2_with fail
          refine Calls.mono HNU.out ?_
          rintro e w1 ⟨rfl, hb1⟩
          have HB1 : Hid (Below w.heap.size w w1) := hb1
          clear hb1
          go_wp2_with fail
          refine wp_region_noPanic ?_
          refine wp_region_held_drew (S := (fun w' => Below w.heap.size w w')) (by kernel_rfl) ?_ (fun hHeld => ?_)
          · exact HB1.out.drew
          refine wpAnyH_take (i := 0) (v := .slice (some ⟨b, off, none⟩) l.length cap) rfl (by kernel_rfl) (by kernel_rfl) (by kernel_rfl) (fun _ _ _ h => h) (Or.inl ⟨by rfl, ?_⟩) (by assumption) ?_
          · (intro w1 hSw; (try dsimp only at hSw); go_simp)
          simp only [List.getElem_toArray, List.getElem_cons_zero, Act.put, List.setIfInBounds_toArray, List.set_cons_zero, List.set_cons_succ]
          refine wpAnyH_take (i := 1) (v := .int .i64 (n : Int)) rfl (by kernel_rfl) (by kernel_rfl) (by kernel_rfl) (fun _ _ _ h => h) (Or.inl ⟨by rfl, ?_⟩) (by assumption) ?_
          · (intro w1 hSw; (try dsimp only at hSw); go_simp)
          simp only [List.getElem_toArray, List.getElem_cons_succ, List.getElem_cons_zero, Act.put, List.setIfInBounds_toArray, List.set_cons_zero, List.set_cons_succ]
          refine wpAnyH_take (i := 2) (v := .int .i64 (4 + (n : Int))) rfl (by kernel_rfl) (by kernel_rfl) (by kernel_rfl) (fun _ _ _ h => h) (Or.inl ⟨by rfl, ?_⟩) (by assumption) ?_
          · (intro w1 hSw; (try dsimp only at hSw); go_simp)
          simp only [List.getElem_toArray, List.getElem_cons_succ, List.getElem_cons_zero, Act.put, List.setIfInBounds_toArray, List.set_cons_zero, List.set_cons_succ]
          refine wpAnyH_take (i := 3) (v := .slice (some ⟨b, off, none⟩) (4 + n) cap) rfl (by kernel_rfl) (by kernel_rfl) (by kernel_rfl) (fun _ _ _ h => h) (Or.inl ⟨by rfl, ?_⟩) (by assumption) ?_
          · (intro w1 hSw; (try dsimp only at hSw); go_simp)
          simp only [List.getElem_toArray, List.getElem_cons_succ, List.getElem_cons_zero, Act.put, List.setIfInBounds_toArray, List.set_cons_zero, List.set_cons_succ]
          refine wpAnyH_take (i := 7) (v := .slice (some ⟨b, off, none⟩) l.length cap) rfl (by kernel_rfl) (by kernel_rfl) (by kernel_rfl) (fun _ _ _ h => h) (Or.inl ⟨by rfl, ?_⟩) (by assumption) ?_
          · (intro w1 hSw; (try dsimp only at hSw); go_simp)
          simp only [List.getElem_toArray, List.getElem_cons_succ, List.getElem_cons_zero, Act.put, List.setIfInBounds_toArray, List.set_cons_zero, List.set_cons_succ]
          refine wpAnyH_take (i := 8) (v := .int .i64 (n : Int)) rfl (by kernel_rfl) (by kernel_rfl) (by kernel_rfl) (fun _ _ _ h => h) (Or.inl ⟨by rfl, ?_⟩) (by assumption) ?_
          · (intro w1 hSw; (try dsimp only at hSw); go_simp)
          simp only [List.getElem_toArray, List.getElem_cons_succ, List.getElem_cons_zero, Act.put, List.setIfInBounds_toArray, List.set_cons_zero, List.set_cons_succ]
          refine wpAnyH_take (i := 9) (v := .int .i64 (4 + (n : Int))) rfl (by kernel_rfl) (by kernel_rfl) (by kernel_rfl) (fun _ _ _ h => h) (Or.inl ⟨by rfl, ?_⟩) (by assumption) ?_
          · (intro w1 hSw; (try dsimp only at hSw); go_simp)
          simp only [List.getElem_toArray, List.getElem_cons_succ, List.getElem_cons_zero, Act.put, List.setIfInBounds_toArray, List.set_cons_zero, List.set_cons_succ]
          refine wpAnyH_take (i := 10) (v := .int .i64 (n : Int)) rfl (by kernel_rfl) (by kernel_rfl) (by kernel_rfl) (fun _ _ _ h => h) (Or.inl ⟨by rfl, ?_⟩) (by assumption) ?_
          · (intro w1 hSw; (try dsimp only at hSw); go_simp)
          simp only [List.getElem_toArray, List.getElem_cons_succ, List.getElem_cons_zero, Act.put, List.setIfInBounds_toArray, List.set_cons_zero, List.set_cons_succ]
          refine wpAnyH_take (i := 11) (v := .int .i64 (8 + (n : Int))) rfl (by kernel_rfl) (by kernel_rfl) (by kernel_rfl) (fun _ _ _ h => h) (Or.inl ⟨by rfl, ?_⟩) (by assumption) ?_
          · (intro w1 hSw; (try dsimp only at hSw); go_simp)
          simp only [List.getElem_toArray, List.getElem_cons_succ, List.getElem_cons_zero, Act.put, List.setIfInBounds_toArray, List.set_cons_zero, List.set_cons_succ]
          refine wpAnyH_take (i := 12) (v := .slice (some ⟨b, off + (4 + n), none⟩) 4 (cap - (4 + n))) rfl (by kernel_rfl) (by kernel_rfl) (by kernel_rfl) (fun _ _ _ h => h) (Or.inl ⟨by rfl, ?_⟩) (by assumption) ?_
          · (intro w1 hSw; (try dsimp only at hSw); go_simp)
          simp only [List.getElem_toArray, List.getElem_cons_succ, List.getElem_cons_zero, Act.put, List.setIfInBounds_toArray, List.set_cons_zero, List.set_cons_succ]
          refine wpAnyH_take (i := 13) (v := .string ⟨S.toArray⟩) rfl (by kernel_rfl) (by kernel_rfl) (by kernel_rfl) (fun _ _ _ h => h) (Or.inl ⟨by rfl, ?_⟩) (by assumption) ?_
          · (intro w1 hSw; (try dsimp only at hSw); have hcv := reads_text (HSR.out _ hSw); go_simp)
          simp only [List.getElem_toArray, List.getElem_cons_succ, List.getElem_cons_zero, Act.put, List.setIfInBounds_toArray, List.set_cons_zero, List.set_cons_succ]
          refine wpAnyH_ready (rs := [4]) (by kernel_rfl) (by simp) ?_
          refine AllReadyH.cons (o := _) rfl (fun K hK => ?_) AllReadyH.nil
          go_simp
          refine (refSum_any _ A _ (HAR.out _ hHeld)).mono ?_
          rintro e w2 ⟨rfl, hw⟩
          subst w2
          go_wp2_with fail
          refine hK.out _ _ ?_ (fun hHeld => ?_)
          · exact hHeld
          clear hK K
          refine wpAnyH_ready (rs := [5]) (by kernel_rfl) (by simp) ?_
          refine AllReadyH.cons (o := _) rfl (fun K hK => ?_) AllReadyH.nil
          go_simp
          refine (refFour_any (mor 0 A) (mor_lt _ _) _).mono ?_
          rintro e w2 ⟨v2, rfl, HO2, hb2⟩
          go_wp2_with fail
          refine hK.out _ _ ?_ (fun hHeld => ?_)
          · exact hHeld.trans (hb2.mono hHeld.size)
          clear hK K
          refine wpAnyH_sub (S' := fun w' => (Below w.heap.size w w') ∧ (Reads w' v2 (four (mor 0 A)) ∧ w2.heap.size ≤ w'.heap.size)) (fun _ h => h.1) _ _ _ _ ?_
          have hHeld : (Below w.heap.size w w2) ∧ (Reads w2 v2 (four (mor 0 A)) ∧ w2.heap.size ≤ w2.heap.size) := ⟨hHeld, ⟨HO2.reads, Nat.le_refl _⟩⟩
          clear hb2 HO2
          refine wpAnyH_take (i := 6) (v := .string ⟨(four (mor 0 A)).toArray⟩) rfl (by kernel_rfl) (by kernel_rfl) (by kernel_rfl) (fun _ _ _ h => h) (Or.inl ⟨by rfl, ?_⟩) (by assumption) ?_
          · (intro w1 hSw; (try dsimp only at hSw); have hcv := reads_text hSw.2.1; go_simp)
          simp only [List.getElem_toArray, List.getElem_cons_succ, List.getElem_cons_zero, Act.put, List.setIfInBounds_toArray, List.set_cons_zero, List.set_cons_succ]
          refine wpAnyH_take (i := 14) (v := .bool true) rfl (by kernel_rfl) (by kernel_rfl) (by kernel_rfl) (fun _ _ _ h => h) (Or.inl ⟨by rfl, ?_⟩) (by assumption) ?_
          · (intro w1 hSw; (try dsimp only at hSw); go_simp)
          simp only [List.getElem_toArray, List.getElem_cons_succ, List.getElem_cons_zero, Act.put, List.setIfInBounds_toArray, List.set_cons_zero, List.set_cons_succ]
          refine wpAnyH_done (by kernel_rfl) ?_ _
          refine NoPanic.normal ?_
          have HB9 : Hid (Below w.heap.size w _) := hHeld.1
          clear hHeld
          go_wp2_with fail
          refine bodyPost_ret (results_tmp3 rfl _ _ _) rfl ?_
          exact ⟨_, rfl, Own.nil _ _, HB9.out⟩
end Go.Proofs.YtilbffgpniomcaaGreatDoor

/- The reference's All. -/
namespace Go.Proofs.YtilbffgpniomcaaGreatDoor
open Go.RowKit

set_option maxRecDepth 100000 in
set_option maxHeartbeats 1000000 in
theorem refAll_any (v : Value) (bs : List UInt8) (hbl : bs.length ≤ 100000) (w : World) (hR : Reads w v bs) :
    Calls Tryz.prog 40 #[v] w fun e W' => ∃ (vl : Value) (xs : List Fr), e = .returned (.tuple #[vl, .int .i64 (ksum (alF (bs.length + 1) bs) : Nat)]) ∧ xs.map Fr.p = alF (bs.length + 1) bs ∧ W'.ownsRow w.heap.size 22 1 vl xs.length (xs.map Fr.v) ∧ (∀ x ∈ xs, Own W' w.heap.size x.v x.D) ∧ Below w.heap.size w W' := by
  obtain ⟨a, cap, rfl, _⟩ := hR.form
  have HR : Hid (Reads w (.slice a bs.length cap) bs) := hR
  clear hR
  go_enter Tryz.func40, Tryz.ntmps40
  go_wp2_with fail
  go_loopw [4, 5] (fun o x wr => ∃ (m k : Nat) (pre : List Fr), k ≤ bs.length ∧ x = .int .i64 (k : Int) ∧ bs.length - k < m ∧ Hid (alF (bs.length + 1) bs = pre.map Fr.p ++ alF m (bs.drop k)) ∧ Hid (ksum (pre.map Fr.p) = k) ∧ 8 * pre.length ≤ k ∧ Hid (wr.ownsRow w.heap.size 22 1 o pre.length (pre.map Fr.v)) ∧ Hid (∀ x ∈ pre, Own wr w.heap.size x.v x.D) ∧ Hid (Below w.heap.size w wr)) (fun _ x _ => bs.length - (intOf x).toNat)
  case atStart => exact ⟨bs.length + 1, 0, [], by omega, rfl, by omega, rfl, rfl, by simp, World.ownsRow_nil _ _ _ _, (fun _ h => by cases h), Below.refl _ _⟩
  case round =>
    obtain ⟨m, k, pre, hk, rfl, hm, HA, HK, h8, HW, HO, HB⟩ := hrel
    obtain ⟨m, rfl⟩ : ∃ m', m = m' + 1 := ⟨m - 1, by omega⟩
    by_cases hlt : (k : Int) < (bs.length : Int)
    · obtain ⟨b, off, rfl, _, _⟩ := HR.out.at 0 (by omega)
      have hcap := HR.out.cap (by omega)
      have hc : ¬ (cap : Int) = (k : Int) := by omega
      have hc' : ¬ cap = k := by omega
      have i1 : (k : Int) ≤ (bs.length : Int) := by omega
      have i2 : (k : Int) ≤ (cap : Int) := by omega
      have hRk : Reads wr (.slice (some ⟨b, off + k, none⟩) (bs.length - k) (cap - k)) (bs.drop k) := ((HR.out.below HB.out).drop (c := k) hk b off rfl).1 (by omega)
      have hdl : (bs.drop k).length = bs.length - k := by simp
      have hcall := refNext_any _ (bs.drop k) (by omega) _ hRk
      obtain ⟨q, hq⟩ := hid_ex (nxF (bs.drop k))
      rw [← hq.out] at hcall
      have HA2 : Hid (alF (bs.length + 1) bs = pre.map Fr.p ++ (if q.2.2 = 0 then (q.1, q.2.1) :: alF m ((bs.drop k).drop q.2.1) else [])) := by rw [HA.out, hq.out]; rfl
      have HOK : Hid (q.2.2 = 0 → 8 ≤ q.2.1 ∧ q.2.1 ≤ bs.length - k) := by
        intro h
        have := nxF_ok (l := bs.drop k) (by rw [← hq.out]; exact h)
        rw [← hq.out, hdl] at this
        exact this
      obtain ⟨D, z, E⟩ := q
      simp only at hcall HA2 HOK
      have HC : Hid _ := hcall
      clear hcall hq HA hRk hdl
      by_cases hE : E = 0
      · subst hE
        obtain ⟨f1, f2⟩ := HOK.out rfl
        have HA3 : Hid (alF (bs.length + 1) bs = pre.map Fr.p ++ (D, z) :: alF m (bs.drop (k + z))) := by rw [HA2.out, if_pos rfl, List.drop_drop]; rfl
        clear HA2 HOK
        go_wp2_with fail
        refine Calls.mono HC.out ?_
        rintro e w1 ⟨v1, rfl, HO1, hb1⟩
        have HB1 : Hid (Below w.heap.size w w1) := HB.out.trans (hb1.mono HB.out.size)
        have HW1 : Hid (w1.ownsRow w.heap.size 22 1 _ pre.length (pre.map Fr.v)) := row_kc HW.out (Kc.of_below hb1 HB.out.size)
        have HO2 : Hid (∀ x ∈ pre, Own w1 w.heap.size x.v x.D) := fun x hx => (HO.out x hx).below hb1
        have HP1 : Hid (Own w1 w.heap.size v1 D) := HO1.mono HB.out.size
        obtain ⟨a1, c1, rfl, _⟩ := HO1.form
        have hsz1 := HB1.out.size
        obtain ⟨i0, hi, hz0, hz1, hz2⟩ := info_parts infoL
        clear HC HO1 hb1 HB HW HO
        go_wp2_with (at_builtin; refine wpList_append_own _ rfl _ _ 93 rfl w.heap.size 22 i0 (.slice none 0 0) 1 24 Tryz.underlying93 hi hz0 hz1 hz2 rfl (by decide) _ _ _ rfl (HW1.out.alloc _) ⟨w1.heap.size, 0, none⟩ 1 1 [.slice a1 D.length c1] rfl rfl (cell_one_new _ _ _) (by simp [Value.oneCell']) (by unfold maxLen; omega) (by omega) (by simp; omega) ?_)
        intro v3 w3 hown3 hg3 _
        have HB3 : Hid (Below w.heap.size w w3) := HB1.out.trans (((Below.refl w.heap.size w1).alloc hsz1 _).grown hg3 (by simp; omega) (fun j ej => (World.ownsRow.lt HW1.out j ej).1))
        have HW3 : Hid (w3.ownsRow w.heap.size 22 1 v3 (pre ++ [(⟨.slice a1 D.length c1, D, z⟩ : Fr)]).length ((pre ++ [(⟨.slice a1 D.length c1, D, z⟩ : Fr)]).map Fr.v)) := by
          rw [List.length_append, List.map_append]; exact hown3
        have HO3 : Hid (∀ x ∈ pre ++ [(⟨.slice a1 D.length c1, D, z⟩ : Fr)], Own w3 w.heap.size x.v x.D) := by
          intro x hx
          rcases List.mem_append.1 hx with hx | hx
          · exact own_grown _ (HO2.out x hx) HW1.out (by decide) hg3
          · simp at hx; subst hx; exact own_grown _ HP1.out HW1.out (by decide) hg3
        have HA4 : Hid (alF (bs.length + 1) bs = (pre ++ [(⟨.slice a1 D.length c1, D, z⟩ : Fr)]).map Fr.p ++ alF m (bs.drop (k + z))) := by rw [HA3.out]; simp [Hid, Fr.p]
        have HK2 : Hid (ksum ((pre ++ [(⟨.slice a1 D.length c1, D, z⟩ : Fr)]).map Fr.p) = k + z) := by
          rw [List.map_append, ← HK.out]; exact ksum_snoc _ _
        have h82 : 8 * (pre ++ [(⟨.slice a1 D.length c1, D, z⟩ : Fr)]).length ≤ k + z := by simp; omega
        have H82 : Hid (8 * (pre ++ [(⟨.slice a1 D.length c1, D, z⟩ : Fr)]).length ≤ k + z) := h82
        clear hown3 hg3 HB1 HW1 HO2 HP1 HA3 HK h82 hi hz0 hz1 hz2
        go_wp2_with fail
        go_roundw
        case rel => exact ⟨m, k + z, _, by omega, by simp, by omega, HA4, HK2, H82.out, HW3, HO3, HB3⟩
        case measure => simp [intOf]; omega
      · have HA3 : Hid (alF (bs.length + 1) bs = pre.map Fr.p) := by rw [HA2.out, if_neg hE, List.append_nil]; rfl
        have jE : (E == 0) = false := by simpa using hE
        have jE2 : (E != 0) = true := by simpa using hE
        clear HA2 HOK hE
        go_wp2_with fail
        refine Calls.mono HC.out ?_
        rintro e w1 ⟨v1, rfl, HO1, hb1⟩
        have HB1 : Hid (Below w.heap.size w w1) := HB.out.trans (hb1.mono HB.out.size)
        have HW1 : Hid (w1.ownsRow w.heap.size 22 1 _ pre.length (pre.map Fr.v)) := row_kc HW.out (Kc.of_below hb1 HB.out.size)
        have HO2 : Hid (∀ x ∈ pre, Own w1 w.heap.size x.v x.D) := fun x hx => (HO.out x hx).below hb1
        clear HC HO1 hb1 HB HW HO
        go_wp2_with fail
        go_ret2
        exact ⟨_, pre, by rw [HA3.out, HK.out]; rfl, HA3.out.symm, HW1.out, HO2.out, HB1.out⟩
    · have hke : k = bs.length := by omega
      subst hke
      have HA3 : Hid (alF (bs.length + 1) bs = pre.map Fr.p) := by
        rw [HA.out, List.drop_length]
        simp [Hid, alF, nxF]
      clear HA
      go_wp2_with fail
      go_ret2
      exact ⟨_, by rw [HA3.out, HK.out]; rfl, pre, HA3.out.symm, HW.out, HO.out, HB.out⟩
end Go.Proofs.YtilbffgpniomcaaGreatDoor

/- Names of files: the reference. -/
namespace Go.Proofs.YtilbffgpniomcaaGreatDoor
open Go.RowKit Go.Shelf

theorem own_one (w : World) (x : UInt8) (base : Nat) (hb : base ≤ w.heap.size) : Own (w.alloc (.cells #[bc x] 5)) base (.slice (some ⟨w.heap.size, 0, none⟩) 1 1) [x] :=
  ⟨rfl, .inr ⟨w.heap.size, 1, #[bc x], rfl, hb, heap_alloc_new _ _, Nat.le_refl _, by unfold maxLen; decide, rfl, rfl⟩⟩
theorem own_reads1 (w : World) (c : UInt8) : Reads (w.alloc (.cells #[bc c] 5)) (.slice (some ⟨w.heap.size, 0, none⟩) 1 1) [c] := (own_one w c w.heap.size (Nat.le_refl _)).reads
theorem bc48 {y : Int} (h1 : 0 ≤ y) (h2 : y < 10) : bc (UInt8.ofNat (48 + y.toNat)) = .int .u8 (48 + y) := by
  rw [bc_of (by omega)]
  congr 1
  omega
set_option maxRecDepth 100000 in
set_option maxHeartbeats 1000000 in
theorem refDigits_lo (y : Int) (h1 : 0 ≤ y) (h2 : y < 10) (w : World) : Calls Tryz.prog 68 #[.int .i64 y] w fun e w' => e = .returned (.string ⟨(Lib.decDigits y.toNat).toArray⟩) ∧ Below w.heap.size w w' := by
  obtain ⟨c, HC⟩ := hid_ex (UInt8.ofNat (48 + y.toNat))
  have hb : bc c = .int .u8 (48 + y) := by rw [HC.out]; exact bc48 h1 h2
  have ht := reads_text (own_reads1 w c)
  rw [hb] at ht
  have HD : Hid (Lib.decDigits y.toNat = [c]) := by rw [HC.out]; exact Lib.decDigits_one (by omega)
  clear HC hb
  go_enter Tryz.func68, Tryz.ntmps68
  go_wp2_with fail
  go_ret
  exact ⟨by rw [HD.out]; rfl, (Below.refl _ _).alloc (Nat.le_refl _) _⟩
set_option maxRecDepth 100000 in
set_option maxHeartbeats 2000000 in
theorem refDigits_hi (y : Int) (h1 : 10 ≤ y) (h2 : y ≤ 1099511627776) (w : World)
    (ih : ∀ w, Calls Tryz.prog 68 #[.int .i64 (y / 10)] w fun e w' => e = .returned (.string ⟨(Lib.decDigits (y / 10).toNat).toArray⟩) ∧ Below w.heap.size w w') :
    Calls Tryz.prog 68 #[.int .i64 y] w fun e w' => e = .returned (.string ⟨(Lib.decDigits y.toNat).toArray⟩) ∧ Below w.heap.size w w' := by
  obtain ⟨c, HC⟩ := hid_ex (UInt8.ofNat (48 + (y % 10).toNat))
  have HBc : Hid (bc c = .int .u8 (48 + y % 10)) := by rw [HC.out]; exact bc48 (by omega) (by omega)
  obtain ⟨D, HDD⟩ := hid_ex (Lib.decDigits (y / 10).toNat)
  have HD : Hid (Lib.decDigits y.toNat = D ++ [c]) := by
    unfold Hid
    rw [Lib.decDigits, dif_neg (by omega), HDD.out, HC.out]
    congr 3
    · congr 1; omega
    · congr 2; omega
  have hDl : D.length ≤ 13 := by rw [HDD.out]; exact dec_len (by omega)
  have HIH : Hid (∀ w, Calls Tryz.prog 68 #[.int .i64 (y / 10)] w fun e w' => e = .returned (.string ⟨D.toArray⟩) ∧ Below w.heap.size w w') := by rw [HDD.out]; exact ih
  have h10 : ¬ y < 10 := by omega
  have h0 : 0 ≤ y := by omega
  have m1 : 0 ≤ y % 10 := by omega
  have m2 : y % 10 < 10 := by omega
  have HQ1 : Hid (IntKind.i64.wrap (y.tdiv 10) = y / 10) := Go.IntWalk.i64_quo y 10 ⟨h0, by omega, by omega⟩
  have HQ2 : Hid (y.tmod 10 = y % 10) := Int.tmod_eq_emod_of_nonneg h0
  have HQ3 : Hid (IntKind.i64.wrap (48 + y % 10) = 48 + y % 10) := Go.IntWalk.i64_in _ (by omega)
  have HQ4 : Hid (IntKind.u8.wrap (48 + y % 10) = 48 + y % 10) := by unfold Hid; rw [IntKind.wrap_u8]; omega
  clear ih HDD HC h1
  go_enter Tryz.func68, Tryz.ntmps68
  go_wp2_with fail
  refine wp_region_noPanic ?_
  refine wp_region_held_drew (S := (fun w' => Below w.heap.size w w')) (by kernel_rfl) ?_ (fun hHeld => ?_)
  · exact (Below.refl _ _).drew
  refine wpAnyH_take (i := 0) (v := .int .i64 y) rfl (by kernel_rfl) (by kernel_rfl) (by kernel_rfl) (fun _ _ _ h => h) (Or.inl ⟨by rfl, ?_⟩) (by assumption) ?_
  · (intro w1 hSw; (try dsimp only at hSw); go_simp)
  simp only [List.getElem_toArray, List.getElem_cons_zero, Act.put, List.setIfInBounds_toArray, List.set_cons_zero, List.set_cons_succ]
  refine wpAnyH_take (i := 1) (v := .int .i64 (y / 10)) rfl (by kernel_rfl) (by kernel_rfl) (by kernel_rfl) (fun _ _ _ h => h) (Or.inl ⟨by rfl, ?_⟩) (by assumption) ?_
  · (intro w1 hSw; (try dsimp only at hSw); go_simp; exact HQ1.out)
  simp only [List.getElem_toArray, List.getElem_cons_succ, List.getElem_cons_zero, Act.put, List.setIfInBounds_toArray, List.set_cons_zero, List.set_cons_succ]
  refine wpAnyH_take (i := 3) (v := .int .i64 y) rfl (by kernel_rfl) (by kernel_rfl) (by kernel_rfl) (fun _ _ _ h => h) (Or.inl ⟨by rfl, ?_⟩) (by assumption) ?_
  · (intro w1 hSw; (try dsimp only at hSw); go_simp)
  simp only [List.getElem_toArray, List.getElem_cons_succ, List.getElem_cons_zero, Act.put, List.setIfInBounds_toArray, List.set_cons_zero, List.set_cons_succ]
  refine wpAnyH_take (i := 4) (v := .int .i64 (y % 10)) rfl (by kernel_rfl) (by kernel_rfl) (by kernel_rfl) (fun _ _ _ h => h) (Or.inl ⟨by rfl, ?_⟩) (by assumption) ?_
  · (intro w1 hSw; (try dsimp only at hSw); go_simp; exact HQ2.out)
  simp only [List.getElem_toArray, List.getElem_cons_succ, List.getElem_cons_zero, Act.put, List.setIfInBounds_toArray, List.set_cons_zero, List.set_cons_succ]
  refine wpAnyH_take (i := 5) (v := .int .i64 (48 + y % 10)) rfl (by kernel_rfl) (by kernel_rfl) (by kernel_rfl) (fun _ _ _ h => h) (Or.inl ⟨by rfl, ?_⟩) (by assumption) ?_
  · (intro w1 hSw; (try dsimp only at hSw); go_simp; exact HQ3.out)
  simp only [List.getElem_toArray, List.getElem_cons_succ, List.getElem_cons_zero, Act.put, List.setIfInBounds_toArray, List.set_cons_zero, List.set_cons_succ]
  refine wpAnyH_take (i := 6) (v := .int .u8 (48 + y % 10)) rfl (by kernel_rfl) (by kernel_rfl) (by kernel_rfl) (fun _ _ _ h => h) (Or.inl ⟨by rfl, ?_⟩) (by assumption) ?_
  · (intro w1 hSw; (try dsimp only at hSw); go_simp; exact HQ4.out)
  simp only [List.getElem_toArray, List.getElem_cons_succ, List.getElem_cons_zero, Act.put, List.setIfInBounds_toArray, List.set_cons_zero, List.set_cons_succ]
  refine wpAnyH_ready (rs := [2, 7]) (by kernel_rfl) (by simp) ?_
  refine AllReadyH.cons (o := _) rfl (fun K hK => ?_) (AllReadyH.cons (o := _) rfl (fun K hK => ?_) AllReadyH.nil)
  · go_simp
    refine (HIH.out _).mono ?_
    rintro e w1 ⟨rfl, hb1⟩
    have HB1 : Hid (Below w.heap.size w w1) := (Below.refl w.heap.size w).drew.trans hb1
    clear hb1
    refine hK.out _ _ ?_ (fun hHeld => ?_)
    · exact HB1.out
    clear hK K
    refine wpAnyH_ready (rs := [7]) (by kernel_rfl) (by simp) ?_
    refine AllReadyH.cons (o := _) rfl (fun K hK => ?_) AllReadyH.nil
    go_simp
    obtain ⟨W2, HW2⟩ := hid_ex (w1.alloc (.cells #[.int .u8 (48 + y % 10)] 5))
    rw [← HW2.out]
    have HB2 : Hid (Below w.heap.size w W2) := by rw [HW2.out]; exact HB1.out.alloc HB1.out.size _
    have ht : (convert 22 9 (.slice (some ⟨w1.heap.size, 0, none⟩) 1 1)).run Tryz.prog W2 = .ok (.string ⟨[c].toArray⟩) W2 := by rw [HW2.out, ← HBc.out]; exact reads_text (own_reads1 w1 c)
    refine hK.out _ _ ?_ (fun hHeld => ?_)
    · exact HB2.out
    clear hK K
    refine wpAnyH_ready (rs := [8]) (by kernel_rfl) (by simp) ?_
    refine AllReadyH.cons (o := _) rfl (fun K hK => ?_) AllReadyH.nil
    go_simp
    refine hK.out _ _ ?_ (fun hHeld => ?_)
    · exact HB2.out
    clear hK K
    refine wpAnyH_take (i := 9) (v := .string ⟨(D ++ [c]).toArray⟩) rfl (by kernel_rfl) (by kernel_rfl) (by kernel_rfl) (fun _ _ _ h => h) (Or.inl ⟨by rfl, ?_⟩) (by assumption) ?_
    · (intro w1 hSw; (try dsimp only at hSw); go_simp; (rw [if_neg (by omega)]; rfl))
    simp only [List.getElem_toArray, List.getElem_cons_succ, List.getElem_cons_zero, Act.put, List.setIfInBounds_toArray, List.set_cons_zero, List.set_cons_succ]
    refine wpAnyH_take (i := 10) (v := .string ⟨(D ++ [c]).toArray⟩) rfl (by kernel_rfl) (by kernel_rfl) (by kernel_rfl) (fun _ _ _ h => h) (Or.inl ⟨by rfl, ?_⟩) (by assumption) ?_
    · (intro w1 hSw; (try dsimp only at hSw); go_simp)
    simp only [List.getElem_toArray, List.getElem_cons_succ, List.getElem_cons_zero, Act.put, List.setIfInBounds_toArray, List.set_cons_zero, List.set_cons_succ]
    refine wpAnyH_done (by kernel_rfl) ?_ _
    refine NoPanic.normal ?_
    go_wp2_with fail
    go_ret
    exact ⟨by rw [HD.out]; rfl, HB2.out⟩
  · go_simp
    obtain ⟨W1, HW1⟩ := hid_ex (w.alloc (.cells #[.int .u8 (48 + y % 10)] 5)).drew
    rw [← HW1.out]
    have HB1 : Hid (Below w.heap.size w W1) := by rw [HW1.out]; exact ((Below.refl _ _).alloc (Nat.le_refl _) _).drew
    have HR1 : Hid (Reads W1 (.slice (some ⟨w.heap.size, 0, none⟩) 1 1) [c]) := by rw [HW1.out, ← HBc.out]; exact (own_reads1 w c).drew
    refine hK.out _ _ ?_ (fun hHeld => ?_)
    · exact HB1.out
    clear hK K
    refine wpAnyH_ready (rs := [2, 8]) (by kernel_rfl) (by simp) ?_
    refine AllReadyH.cons (o := _) rfl (fun K hK => ?_) (AllReadyH.cons (o := _) rfl (fun K hK => ?_) AllReadyH.nil)
    · go_simp
      refine (HIH.out _).mono ?_
      rintro e w2 ⟨rfl, hb2⟩
      have HB2 : Hid (Below w.heap.size w w2) := HB1.out.trans (hb2.mono HB1.out.size)
      have ht : (convert 22 9 (.slice (some ⟨w.heap.size, 0, none⟩) 1 1)).run Tryz.prog w2 = .ok (.string ⟨[c].toArray⟩) w2 := reads_text (HR1.out.below hb2)
      clear hb2
      refine hK.out _ _ ?_ (fun hHeld => ?_)
      · exact HB2.out
      clear hK K
      refine wpAnyH_ready (rs := [8]) (by kernel_rfl) (by simp) ?_
      refine AllReadyH.cons (o := _) rfl (fun K hK => ?_) AllReadyH.nil
      go_simp
      refine hK.out _ _ ?_ (fun hHeld => ?_)
      · exact HB2.out
      clear hK K
      refine wpAnyH_take (i := 9) (v := .string ⟨(D ++ [c]).toArray⟩) rfl (by kernel_rfl) (by kernel_rfl) (by kernel_rfl) (fun _ _ _ h => h) (Or.inl ⟨by rfl, ?_⟩) (by assumption) ?_
      · (intro w1 hSw; (try dsimp only at hSw); go_simp; (rw [if_neg (by omega)]; rfl))
      simp only [List.getElem_toArray, List.getElem_cons_succ, List.getElem_cons_zero, Act.put, List.setIfInBounds_toArray, List.set_cons_zero, List.set_cons_succ]
      refine wpAnyH_take (i := 10) (v := .string ⟨(D ++ [c]).toArray⟩) rfl (by kernel_rfl) (by kernel_rfl) (by kernel_rfl) (fun _ _ _ h => h) (Or.inl ⟨by rfl, ?_⟩) (by assumption) ?_
      · (intro w1 hSw; (try dsimp only at hSw); go_simp)
      simp only [List.getElem_toArray, List.getElem_cons_succ, List.getElem_cons_zero, Act.put, List.setIfInBounds_toArray, List.set_cons_zero, List.set_cons_succ]
      refine wpAnyH_done (by kernel_rfl) ?_ _
      refine NoPanic.normal ?_
      go_wp2_with fail
      go_ret
      exact ⟨by rw [HD.out]; rfl, HB2.out⟩
    · have ht : (convert 22 9 (.slice (some ⟨w.heap.size, 0, none⟩) 1 1)).run Tryz.prog W1 = .ok (.string ⟨[c].toArray⟩) W1 := reads_text HR1.out
      go_simp
      refine hK.out _ _ ?_ (fun hHeld => ?_)
      · exact HB1.out
      clear hK K
      refine wpAnyH_ready (rs := [2]) (by kernel_rfl) (by simp) ?_
      refine AllReadyH.cons (o := _) rfl (fun K hK => ?_) AllReadyH.nil
      go_simp
      refine (HIH.out _).mono ?_
      rintro e w2 ⟨rfl, hb2⟩
      have HB2 : Hid (Below w.heap.size w w2) := HB1.out.trans (hb2.mono HB1.out.size)
      clear hb2
      refine hK.out _ _ ?_ (fun hHeld => ?_)
      · exact HB2.out
      clear hK K
      refine wpAnyH_take (i := 9) (v := .string ⟨(D ++ [c]).toArray⟩) rfl (by kernel_rfl) (by kernel_rfl) (by kernel_rfl) (fun _ _ _ h => h) (Or.inl ⟨by rfl, ?_⟩) (by assumption) ?_
      · (intro w1 hSw; (try dsimp only at hSw); go_simp; (rw [if_neg (by omega)]; rfl))
      simp only [List.getElem_toArray, List.getElem_cons_succ, List.getElem_cons_zero, Act.put, List.setIfInBounds_toArray, List.set_cons_zero, List.set_cons_succ]
      refine wpAnyH_take (i := 10) (v := .string ⟨(D ++ [c]).toArray⟩) rfl (by kernel_rfl) (by kernel_rfl) (by kernel_rfl) (fun _ _ _ h => h) (Or.inl ⟨by rfl, ?_⟩) (by assumption) ?_
      · (intro w1 hSw; (try dsimp only at hSw); go_simp)
      simp only [List.getElem_toArray, List.getElem_cons_succ, List.getElem_cons_zero, Act.put, List.setIfInBounds_toArray, List.set_cons_zero, List.set_cons_succ]
      refine wpAnyH_done (by kernel_rfl) ?_ _
      refine NoPanic.normal ?_
      go_wp2_with fail
      go_ret
      exact ⟨by rw [HD.out]; rfl, HB2.out⟩
theorem refDigits_any : ∀ (k : Nat) (y : Int), 0 ≤ y → y ≤ 1099511627776 → y.toNat ≤ k → ∀ w, Calls Tryz.prog 68 #[.int .i64 y] w fun e w' => e = .returned (.string ⟨(Lib.decDigits y.toNat).toArray⟩) ∧ Below w.heap.size w w'
  | 0, y, h1, _, h3, w => refDigits_lo y h1 (by omega) w
  | k + 1, y, h1, h2, h3, w => by
    by_cases h : y < 10
    · exact refDigits_lo y h1 h w
    · exact refDigits_hi y (by omega) h2 w (refDigits_any k (y / 10) (by omega) (by omega) (by omega))
set_option maxRecDepth 100000 in
theorem refName_any (p : List UInt8) (hp : p.length ≤ 1000000) (n : Int) (w : World) : Calls Tryz.prog 36 #[.string ⟨p.toArray⟩, .int .i64 n] w fun e w' => e = .returned (.string ⟨(nmF p n).toArray⟩) ∧ Below w.heap.size w w' := by
  by_cases h1 : n < 1
  · have HF : Hid (nmF p n = []) := nmF_no (by omega)
    go_enter Tryz.func36, Tryz.ntmps36
    go_wp2_with fail
    go_ret
    exact ⟨by rw [HF.out]; rfl, Below.refl _ _⟩
  · by_cases h2 : 1099511627776 < n
    · have HF : Hid (nmF p n = []) := nmF_no (by omega)
      go_enter Tryz.func36, Tryz.ntmps36
      go_wp2_with fail
      go_ret
      exact ⟨by rw [HF.out]; rfl, Below.refl _ _⟩
    · have HF : Hid (nmF p n = p ++ Lib.decDigits n.toNat) := nmF_yes (by omega) (by omega)
      have hl := dec_len (n := n.toNat) (by omega)
      have d2 : decide (1099511627776 < n) = false := decide_eq_false h2
      obtain ⟨D, HD⟩ := hid_ex (Lib.decDigits n.toNat)
      have HC : Hid (Calls Tryz.prog 68 #[.int .i64 n] w fun e w' => e = .returned (.string ⟨D.toArray⟩) ∧ Below w.heap.size w w') := by rw [HD.out]; exact refDigits_any n.toNat n (by omega) (by omega) (Nat.le_refl _) w
      rw [← HD.out] at HF hl
      clear HD
      go_enter Tryz.func36, Tryz.ntmps36
      go_wp2_with fail
      refine HC.out.mono ?_
      rintro e w2 ⟨rfl, hb⟩
      go_wp2_with fail
      go_ret
      exact ⟨by rw [HF.out]; rfl, hb⟩
end Go.Proofs.YtilbffgpniomcaaGreatDoor

/- The reference of layer 13: Log, Pointed, Name (written by mkml4.py). -/
namespace Go.Proofs.YtilbffgpniomcaaGreatDoor
open Go.RowKit Go.Shelf

set_option maxRecDepth 100000 in
set_option maxHeartbeats 4000000 in
theorem refLog_any (bv : Value) (b : List UInt8) (hbl : b.length ≤ 2000) (w : World) (h : Reads w bv b) : Calls Tryz.prog 13 #[bv] w (RpP (rpF (fmS b) st0 false) w) := by
  obtain ⟨ba, bcp, rfl, _⟩ := h.form
  have hAll := refAll_any _ b (by omega) (w.alloc (.cells #[.slice none 0 0, .int .i64 0, .int .i64 0, .int .i64 0] 38)) (h.below ((Below.refl _ _).alloc (Nat.le_refl _) _))
  have HFm : Hid (∀ d ∈ fmS b, d.length ≤ 2000) := fun d hd => by
    unfold fmS at hd
    obtain ⟨x, hx, rfl⟩ := List.mem_map.1 hd
    have := alF_len _ _ x hx
    omega
  obtain ⟨BL, HBL⟩ := hid_ex b.length
  rw [← HBL.out] at hAll ⊢
  rw [HBL.out] at hAll
  obtain ⟨KS, HKS⟩ := hid_ex (ksum (alF (b.length + 1) b))
  rw [← HKS.out, ← HBL.out] at hAll
  have HAll : Hid (Calls Tryz.prog 40 #[.slice ba BL bcp] (w.alloc (.cells #[.slice none 0 0, .int .i64 0, .int .i64 0, .int .i64 0] 38)) _) := hAll
  obtain ⟨R, HR⟩ := hid_ex (rpF (fmS b) st0 false)
  rw [← HR.out]
  clear h hAll
  go_enter Tryz.func13, Tryz.ntmps13
  go_wp2_with fail
  refine HAll.out.mono ?_
  rintro e W1 ⟨vl, xs, rfl, hxs, hrow, hown, hb1⟩
  have hD : DsR W1 vl (fmS b) := by rw [HBL.out] at hxs; rw [← fm_of hxs]; exact dsr_of hrow hown
  obtain ⟨ds, Hds⟩ := hid_ex (fmS b)
  rw [← Hds.out] at hD HR HFm
  obtain ⟨fa, fcp, hvl, hfm⟩ := hD.form
  subst hvl
  obtain ⟨FL, HFL⟩ : ∃ n, Hid (ds.length = n) := ⟨_, rfl⟩
  rw [HFL.out] at hD hfm ⊢
  unfold maxLen at hfm
  have HD : Hid (DsR W1 (.slice fa FL fcp) ds) := hD
  have HB1 : Hid (Below w.heap.size w W1) := ((Below.refl _ _).alloc (Nat.le_refl _) _).trans (hb1.mono (by simp))
  have hz1 : w.heap.size < W1.heap.size := by have := hb1.size; simp at this; omega
  have HA1 : Hid (W1.heap[w.heap.size]? = some (.cells #[.slice none 0 0, .int .i64 0, .int .i64 0, .int .i64 0] 38)) := (hb1.block _ (by simp)).trans (heap_alloc_new _ _)
  clear hrow hown hb1 hxs hD HAll HKS Hds
  go_wp2_with (refine stop_store 38 _ _ rfl ?_)
  refine Stop.of ?_
  refine wpList_storeN rfl _ _ _ rfl W1.heap.size 0 [.slice none 0 0, .int .i64 1, .int .i64 2, .int .i64 0] rfl rfl _ _ (heap_alloc_new _ _) (by simp) (by kernel_rfl) (by kernel_rfl) ?_
  intro W2 hW2
  obtain ⟨hb2, hp2, _⟩ := stW_nw hW2 (by simp)
  have HB2 : Hid (Below W1.heap.size W1 W2) := hb2
  have HP2 : Hid (W2.heap[W1.heap.size]? = some (.cells #[.slice none 0 0, .int .i64 1, .int .i64 2, .int .i64 0] 38)) := hp2
  obtain ⟨P, HPe⟩ := hid_ex W1.heap.size
  rw [← HPe.out]
  clear hW2 hb2 hp2
  go_wp2_with fail
  go_loopw [7] (fun iv wr => ∃ (j SL sc : Nat) (sa : Option Addr) (s : St), iv = .int .i64 (j : Int) ∧ j ≤ FL ∧ Hid (s.ru.length = SL) ∧ Hid (UR wr (.slice sa SL sc) s.ru) ∧ Hid (notP P (.slice sa SL sc) s.ru ∧ ∀ Q, Q ≤ w.heap.size → notP Q (.slice sa SL sc) s.ru) ∧ Hid (okSt s ∧ R = rpF (ds.drop j) s (decide (0 < j))) ∧ Hid (wr.heap[P]? = some (.cells #[.slice sa SL sc, .int .i64 s.lo, .int .i64 s.ne, .int .i64 s.ma] 38)) ∧ Hid (Below P W1 wr)) (fun iv _ => FL - (intOf iv).toNat)
  case atStart => exact ⟨0, 0, 0, none, st0, rfl, by omega, rfl, ur_nil _, ⟨fun h => by simp [st0] at h, fun _ _ h => by simp [st0] at h⟩, ⟨st0_ok, HR.out⟩, by unfold Hid; rw [HPe.out]; exact HP2.out, by unfold Hid; rw [HPe.out]; exact HB2.out⟩
  case round =>
    clear HP2 HB2 HR
    obtain ⟨j, SL, sc, sa, s, rfl, hj, HSL, HU, HN, HI, HP, HB⟩ := hrel
    have hPz : P < wr.heap.size := (Array.getElem?_eq_some_iff.1 HP.out).1
    have hwP : w.heap.size < P := by rw [HPe.out]; exact hz1
    have HA : Hid (wr.heap[w.heap.size]? = some (.cells #[.slice none 0 0, .int .i64 0, .int .i64 0, .int .i64 0] 38)) := (HB.out.block _ hwP).trans HA1.out
    have HBw : Hid (Below w.heap.size w wr) := HB1.out.trans (HB.out.mono (by omega))
    have HOn : Hid (([.slice sa SL sc, .int .i64 s.lo, .int .i64 s.ne, .int .i64 s.ma] : List Value).toArray.all (·.oneCell') = true) := by unfold Hid; kernel_rfl
    obtain ⟨p0, p1, p2, p3⟩ := four13 HP.out
    by_cases hlt : j < FL
    · have hlt' : (j : Int) < (FL : Int) := by omega
      have hjl : j < ds.length := by rw [HFL.out]; exact hlt
      obtain ⟨d, Hd⟩ := hid_ex ds[j]
      have Hdl : Hid (d.length ≤ 2000) := by unfold Hid; rw [Hd.out]; exact HFm.out _ (List.getElem_mem hjl)
      have Hdr : Hid (ds.drop j = d :: ds.drop (j + 1)) := by unfold Hid; rw [Hd.out]; exact List.drop_eq_getElem_cons hjl
      obtain ⟨g, u, hfa, hg, hc, hrd⟩ := (HD.out.below (by rw [HPe.out] at HB; exact HB.out)).at hjl Hd.out
      obtain ⟨ua, uc, hu, hum⟩ := hrd.form
      subst hu
      subst hfa
      have HRd := refRead13_any _ d wr hrd Hdl.out
      obtain ⟨UL, HUL⟩ := hid_ex d.length
      rw [← HUL.out] at HRd hc
      have HRd' : Hid (Calls Tryz.prog 41 #[.slice ua UL uc] wr _) := HRd
      clear HRd hrd hum
      go_wp2_with fail
      refine HRd'.out.mono ?_
      clear HRd' hc
      rintro e W3 ⟨dv, av, rfl, hed, hb3⟩
      obtain ⟨da, dc, hdv, hdm⟩ := hed.d.form
      obtain ⟨aa, ac, hav, ham⟩ := hed.a.form
      subst hdv
      subst hav
      obtain ⟨X, HX⟩ := hid_ex ((edR d).getD edZ)
      obtain ⟨EE, HEE⟩ := hid_ex (edE (edR d))
      rw [← HX.out] at hed hdm ham ⊢
      rw [← HEE.out]
      obtain ⟨DL, HDL⟩ : ∃ n, Hid (X.dr.length = n) := ⟨_, rfl⟩
      obtain ⟨AL, HAL⟩ : ∃ n, Hid (X.ad.length = n) := ⟨_, rfl⟩
      rw [HDL.out, HAL.out] at hed
      rw [HDL.out, HAL.out]
      have HEd : Hid (EdR W3 (.slice da DL dc) (.slice aa AL ac) X) := hed
      have HXl : Hid (X.ad.length ≤ 900) := by
        unfold Hid
        rw [HX.out]
        cases he : edR d with
        | none => simp [edZ]
        | some x => exact Nat.le_trans (edR_len he).2 (by decide)
      have HB3 : Hid (Below wr.heap.size wr W3) := hb3
      have hz3 := hb3.size
      have HOn2 : Hid (([.slice da DL dc, .slice aa AL ac, .int .i64 X.lo, .int .i64 X.ne, .int .i64 X.ma] : List Value).toArray.all (·.oneCell') = true) := by unfold Hid; kernel_rfl
      clear hed hb3 hdm ham
      go_wp2_with (refine stop_store 56 _ _ rfl ?_)
      refine Stop.of ?_
      refine wpList_storeN rfl _ _ _ rfl W3.heap.size 0 [.slice da DL dc, .slice aa AL ac, .int .i64 X.lo, .int .i64 X.ne, .int .i64 X.ma] rfl rfl _ _ (heap_alloc_new _ _) (by simp) (by kernel_rfl) HOn2.out ?_
      intro W4 hW4
      obtain ⟨hb4, hx4, hz4⟩ := stW_nw hW4 (by simp)
      have HB4 : Hid (Below wr.heap.size wr W4) := HB3.out.trans (hb4.mono hz3)
      have HU4 : Hid (UR W4 (.slice sa SL sc) s.ru) := HU.out.below HB4.out
      have HP4 : Hid (W4.heap[P]? = some (.cells #[.slice sa SL sc, .int .i64 s.lo, .int .i64 s.ne, .int .i64 s.ma] 38)) := (HB4.out.block _ hPz).trans HP.out
      have HA4 : Hid (W4.heap[w.heap.size]? = some (.cells #[.slice none 0 0, .int .i64 0, .int .i64 0, .int .i64 0] 38)) := (HB4.out.block _ (by omega)).trans HA.out
      have HBw4 : Hid (Below w.heap.size w W4) := HBw.out.trans (HB4.out.mono HBw.out.size)
      have HEd4 : Hid (EdR W4 (.slice da DL dc) (.slice aa AL ac) X) := HEd.out.below hb4
      have HX4 : Hid (W4.heap[W3.heap.size]? = some (.cells #[.slice da DL dc, .slice aa AL ac, .int .i64 X.lo, .int .i64 X.ne, .int .i64 X.ma] 56)) := hx4
      have HBP4 : Hid (Below P W1 W4) := HB.out.trans (HB4.out.mono (by omega))
      clear hW4 hb4 hx4 HEd HB3 p0 p1 p2 p3
      obtain ⟨p0, p1, p2, p3⟩ := four13 HP4.out
      obtain ⟨q0, q1, q2, q3, q4⟩ := five HX4.out
      have HAp := refApplyF_any _ _ _ s X W4 HU4.out HEd4.out.d HEd4.out.a (Nat.le_trans HI.out.1.2.2.2.2.2.1 (by decide)) HXl.out
      have HAp' : Hid (Calls Tryz.prog 20 #[.agg #[.slice sa SL sc, .int .i64 s.lo, .int .i64 s.ne, .int .i64 s.ma], .agg #[.slice da DL dc, .slice aa AL ac, .int .i64 X.lo, .int .i64 X.ne, .int .i64 X.ma]] W4 _) := HAp
      clear HAp
      go_wp2_with fail
      refine HAp'.out.mono ?_
      clear HAp' p0 p1 p2 p3 q0 q1 q2 q3 q4
      rintro e W5 ⟨v5, rfl, hu5, hb5, hn5⟩
      obtain ⟨a5, c5, hv5, _⟩ := hu5.r.form
      subst hv5
      obtain ⟨T, HT⟩ := hid_ex ((apS s X).1.getD stZ)
      obtain ⟨E5, HE5⟩ := hid_ex (apS s X).2
      rw [← HT.out] at hu5 hn5 ⊢
      rw [← HE5.out]
      obtain ⟨L5, HL5⟩ : ∃ n, Hid (T.ru.length = n) := ⟨_, rfl⟩
      rw [HL5.out] at hu5 hn5 ⊢
      have HU5 : Hid (UR W5 (.slice a5 L5 c5) T.ru) := hu5
      have HB5 : Hid (Below W4.heap.size W4 W5) := hb5
      have hz5 := hb5.size
      have HN5 : Hid (notP P (.slice a5 L5 c5) T.ru ∧ ∀ Q, Q ≤ w.heap.size → notP Q (.slice a5 L5 c5) T.ru) := ⟨hn5 P (by have := HB4.out.size; omega) HN.out.1, fun Q hQ => hn5 Q (by have := HB4.out.size; omega) (HN.out.2 Q hQ)⟩
      have HOn5 : Hid (([.slice a5 L5 c5, .int .i64 T.lo, .int .i64 T.ne, .int .i64 T.ma] : List Value).toArray.all (·.oneCell') = true) := by unfold Hid; kernel_rfl
      clear hu5 hb5 hn5
      go_wp2_with (refine stop_store 38 _ _ rfl ?_)
      refine Stop.of ?_
      refine wpList_storeN rfl _ _ _ rfl W5.heap.size 0 [.slice a5 L5 c5, .int .i64 T.lo, .int .i64 T.ne, .int .i64 T.ma] rfl rfl _ _ (heap_alloc_new _ _) (by simp) (by kernel_rfl) HOn5.out ?_
      intro W6 hW6
      obtain ⟨hb6, hx6, hz6⟩ := stW_nw hW6 (by simp)
      have HB46 : Hid (Below W4.heap.size W4 W6) := HB5.out.trans (hb6.mono hz5)
      have HU6 : Hid (UR W6 (.slice a5 L5 c5) T.ru) := HU5.out.below hb6
      have HU6s : Hid (UR W6 (.slice sa SL sc) s.ru) := HU4.out.below HB46.out
      have hP4z : P < W4.heap.size := by have := HB4.out.size; omega
      have HP6 : Hid (W6.heap[P]? = some (.cells #[.slice sa SL sc, .int .i64 s.lo, .int .i64 s.ne, .int .i64 s.ma] 38)) := (HB46.out.block _ hP4z).trans HP4.out
      have HA6 : Hid (W6.heap[w.heap.size]? = some (.cells #[.slice none 0 0, .int .i64 0, .int .i64 0, .int .i64 0] 38)) := (HB46.out.block _ (by omega)).trans HA4.out
      have HBw6 : Hid (Below w.heap.size w W6) := HBw4.out.trans (HB46.out.mono HBw4.out.size)
      have HBP6 : Hid (Below P W1 W6) := HBP4.out.trans (HB46.out.mono (by omega))
      have HX6 : Hid (W6.heap[W5.heap.size]? = some (.cells #[.slice a5 L5 c5, .int .i64 T.lo, .int .i64 T.ne, .int .i64 T.ma] 38)) := hx6
      clear hW6 hb6 hx6 HB5 HU5 HU4 HEd4 HX4
      cases hed : edR d with
      | none =>
        have hE : EE = 100 := by rw [HEE.out, hed]; rfl
        have HQ : Hid (R = (s, decide (0 < j))) := by unfold Hid; rw [HI.out.2, Hdr.out, rpF_no _ _ _ hed]
        subst hE
        clear HEE HX hed
        obtain ⟨p0, p1, p2, p3⟩ := four13 HP6.out
        go_wp2_with (refine stop_store 38 _ _ rfl ?_)
        refine Stop.of ?_
        refine wpList_storeN rfl _ _ _ rfl w.heap.size 0 [.slice sa SL sc, .int .i64 s.lo, .int .i64 s.ne, .int .i64 s.ma] rfl rfl _ _ HA6.out (by simp) (by kernel_rfl) HOn.out ?_
        intro W9 hW9
        have HK9 := stW_all hW9 (by simp)
        have HB9 : Hid (Below w.heap.size w W9) := HBw6.out.trans (hW9.b _ (Nat.le_refl _))
        have HU9 : Hid (UR W9 (.slice sa SL sc) s.ru) := ⟨HU6s.out.r.keepC fun h0 b off n c e => hW9.o b (HN.out.2 _ (Nat.le_refl _) h0 b off n c e), HU6s.out.c, HU6s.out.z⟩
        clear hW9
        go_wp2_with fail
        refine bodyPost_ret (results_c13 rfl _ _ w.heap.size _ rfl (run_loadVar_row _ w.heap.size _ _ _ (0, 0) _ HK9 Tryz.underlying38 rfl (by kernel_rfl))) rfl ?_
        exact ⟨_, by rw [HQ.out]; first | rfl | (simp; done), by rw [HQ.out]; exact HU9.out, HB9.out, by rw [HQ.out]; exact fun Q hQ => HN.out.2 Q (Nat.le_of_lt hQ)⟩
      | some x =>
        have hE : EE = 0 := by rw [HEE.out, hed]; rfl
        have hXx : X = x := by rw [HX.out, hed]; rfl
        subst hXx
        have HEr : Hid (edR d = some X) := hed
        subst hE
        clear HEE HX hed
        rcases apS_cases s X with ⟨t, ht⟩ | ⟨c, ht, hc⟩
        · have hE : E5 = 0 := by rw [HE5.out, ht]
          have hTt : T = t := by rw [HT.out, ht]; rfl
          subst hTt
          have HQ : Hid (R = rpF (ds.drop (j + 1)) T (decide (0 < j + 1))) := by unfold Hid; rw [HI.out.2, Hdr.out, rpF_on _ _ _ HEr.out (by rw [ht]), show decide (0 < j + 1) = true from decide_eq_true (by omega)]
          have HOk : Hid (okSt T) := (apS_ok ht).ok
          subst hE
          clear HE5 HT ht
          obtain ⟨p0, p1, p2, p3⟩ := four13 HX6.out
          go_wp2_with (refine stop_store 38 _ _ rfl ?_)
          refine Stop.of ?_
          refine wpList_storeN rfl _ _ _ rfl P 0 [.slice a5 L5 c5, .int .i64 T.lo, .int .i64 T.ne, .int .i64 T.ma] rfl rfl _ _ HP6.out (by simp) (by kernel_rfl) HOn5.out ?_
          intro W7 hW7
          have HK7 := stW_all hW7 (by simp)
          have HU7 : Hid (UR W7 (.slice a5 L5 c5) T.ru) := ⟨HU6.out.r.keepC fun h0 b off n c e => hW7.o b (HN5.out.1 h0 b off n c e), HU6.out.c, HU6.out.z⟩
          have HBP7 : Hid (Below P W1 W7) := HBP6.out.trans (hW7.b _ (Nat.le_refl _))
          clear hW7 p0 p1 p2 p3
          go_wp2_with fail
          go_roundw
          case rel => exact ⟨j + 1, L5, c5, a5, T, by go_num, by omega, HL5, HU7, HN5, ⟨HOk.out, HQ.out⟩, HK7, HBP7⟩
          case measure => simp [intOf]; omega
        · have hE : E5 = c := by rw [HE5.out, ht]
          have HQ : Hid (R = (s, decide (0 < j))) := by unfold Hid; rw [HI.out.2, Hdr.out, rpF_stop _ _ _ HEr.out (by rw [ht])]
          have hc0 : ¬ c = 0 := by omega
          have hc' : (c != 0) = true := by simpa using hc0
          subst hE
          clear HT ht HE5
          obtain ⟨p0, p1, p2, p3⟩ := four13 HP6.out
          go_wp2_with (refine stop_store 38 _ _ rfl ?_)
          refine Stop.of ?_
          refine wpList_storeN rfl _ _ _ rfl w.heap.size 0 [.slice sa SL sc, .int .i64 s.lo, .int .i64 s.ne, .int .i64 s.ma] rfl rfl _ _ HA6.out (by simp) (by kernel_rfl) HOn.out ?_
          intro W9 hW9
          have HK9 := stW_all hW9 (by simp)
          have HB9 : Hid (Below w.heap.size w W9) := HBw6.out.trans (hW9.b _ (Nat.le_refl _))
          have HU9 : Hid (UR W9 (.slice sa SL sc) s.ru) := ⟨HU6s.out.r.keepC fun h0 b off n c e => hW9.o b (HN.out.2 _ (Nat.le_refl _) h0 b off n c e), HU6s.out.c, HU6s.out.z⟩
          clear hW9
          go_wp2_with fail
          refine bodyPost_ret (results_c13 rfl _ _ w.heap.size _ rfl (run_loadVar_row _ w.heap.size _ _ _ (0, 0) _ HK9 Tryz.underlying38 rfl (by kernel_rfl))) rfl ?_
          exact ⟨_, by rw [HQ.out]; first | rfl | (simp; done), by rw [HQ.out]; exact HU9.out, HB9.out, by rw [HQ.out]; exact fun Q hQ => HN.out.2 Q (Nat.le_of_lt hQ)⟩
    · have hlt' : ¬ (j : Int) < (FL : Int) := by omega
      obtain rfl : j = FL := by omega
      have HQ : Hid (R = (s, decide (0 < j))) := by unfold Hid; rw [HI.out.2, List.drop_eq_nil_of_le (by rw [HFL.out]; omega)]; rfl
      go_wp2_with (refine stop_store 38 _ _ rfl ?_)
      refine Stop.of ?_
      refine wpList_storeN rfl _ _ _ rfl w.heap.size 0 [.slice sa SL sc, .int .i64 s.lo, .int .i64 s.ne, .int .i64 s.ma] rfl rfl _ _ HA.out (by simp) (by kernel_rfl) HOn.out ?_
      intro W9 hW9
      have HK9 := stW_all hW9 (by simp)
      have HB9 : Hid (Below w.heap.size w W9) := HBw.out.trans (hW9.b _ (Nat.le_refl _))
      have HU9 : Hid (UR W9 (.slice sa SL sc) s.ru) := ⟨HU.out.r.keepC fun h0 b off n c e => hW9.o b (HN.out.2 _ (Nat.le_refl _) h0 b off n c e), HU.out.c, HU.out.z⟩
      clear hW9
      go_wp2_with fail
      refine bodyPost_ret (results_c13 rfl _ _ w.heap.size _ rfl (run_loadVar_row _ w.heap.size _ _ _ (0, 0) _ HK9 Tryz.underlying38 rfl (by kernel_rfl))) rfl ?_
      exact ⟨_, by rw [HQ.out]; first | rfl | (simp; done), by rw [HQ.out]; exact HU9.out, HB9.out, by rw [HQ.out]; exact fun Q hQ => HN.out.2 Q (Nat.le_of_lt hQ)⟩
set_option maxRecDepth 100000 in
theorem refName13_any (n : Int) (w : World) : Calls Tryz.prog 11 #[.int .i64 n] w fun e w' => e = .returned (.string ⟨(nmF man n).toArray⟩) ∧ Below w.heap.size w w' := by
  have HC : Hid (Calls Tryz.prog 36 #[.string ⟨man.toArray⟩, .int .i64 n] w _) := refName_any man (by decide) n w
  unfold man at HC
  go_enter Tryz.func11, Tryz.ntmps11
  go_wp2_with fail
  refine HC.out.mono ?_
  rintro e w' ⟨rfl, hb⟩
  go_wp2_with fail
  go_ret
  exact ⟨rfl, hb⟩
set_option maxRecDepth 100000 in
set_option maxHeartbeats 4000000 in
theorem refPointed_any (bv : Value) (b : List UInt8) (hbl : b.length ≤ 2000) (w : World) (h : Reads w bv b) : Calls Tryz.prog 14 #[bv] w fun e w' => e = .returned (.int .i64 ((ptF b).getD 0)) ∧ Below w.heap.size w w' := by
  obtain ⟨ba, bcp, rfl, hbm⟩ := h.form
  have hAll := refAll_any _ b (by omega) w h
  obtain ⟨BL, HBL⟩ := hid_ex b.length
  have HAE : Hid (alF (b.length + 1) b = alF (BL + 1) b) := by unfold Hid; rw [HBL.out]
  rw [HAE.out, ← HBL.out] at hAll
  rw [← HBL.out] at hbm ⊢
  unfold maxLen at hbm
  obtain ⟨AF, HAF⟩ := hid_ex (alF (BL + 1) b)
  rw [← HAF.out] at hAll
  obtain ⟨KS, HKS⟩ := hid_ex (ksum AF)
  rw [← HKS.out] at hAll
  have HAll : Hid (Calls Tryz.prog 40 #[.slice ba BL bcp] w _) := hAll
  have HAs : Hid (AF = alF (b.length + 1) b) := by unfold Hid; rw [HAF.out, HBL.out]
  obtain ⟨PV, HPV⟩ := hid_ex ((ptF b).getD 0)
  rw [← HPV.out]
  clear h hAll HAE
  go_enter Tryz.func14, Tryz.ntmps14
  go_wp2_with fail
  refine HAll.out.mono ?_
  rintro e W1 ⟨vl, xs, rfl, hxs, hrow, hown, hb1⟩
  have hD : DsR W1 vl (xs.map Fr.D) := dsr_of hrow hown
  have HXs : Hid (xs.map Fr.p = AF) := hxs
  obtain ⟨fa, fcp, hvl, hfm⟩ := hD.form
  subst hvl
  obtain ⟨ds, Hds⟩ := hid_ex (xs.map Fr.D)
  rw [← Hds.out] at hD hfm ⊢
  have HDs : Hid (ds = AF.map (·.1)) := by
    unfold Hid
    rw [Hds.out, ← hxs, List.map_map]
    rfl
  obtain ⟨FL, HFL⟩ : ∃ n, Hid (ds.length = n) := ⟨_, rfl⟩
  rw [HFL.out] at hD hfm ⊢
  unfold maxLen at hfm
  have HD : Hid (DsR W1 (.slice fa FL fcp) ds) := hD
  have HB1 : Hid (Below w.heap.size w W1) := hb1
  clear hrow hown hb1 hxs hD HAll Hds
  have HNone : Hid ((∀ v : Int, ptF b = some v → AF = [(sh v.toNat, BL)] → rsF (sh v.toNat) 0 0 = (v.toNat, (sh v.toNat).length, 0) → 1 ≤ v → v ≤ 1099511627776 → False) → PV = 0) := fun hh => by
    rw [HPV.out]
    cases hp : ptF b with
    | none => rfl
    | some v =>
      obtain ⟨h1, h2, _⟩ := pt_all hp
      obtain ⟨h3, h4, _⟩ := pt_iff.1 hp
      exact (hh v hp (by rw [HAs.out, HBL.out]; exact h1) h2 h3 h4).elim
  by_cases hF : FL = 1
  · by_cases hK : KS = BL
    · subst hF
      subst hK
      obtain ⟨d, Hd⟩ : ∃ d, Hid (ds = [d]) := by
        have h1 := HFL.out
        match ds, h1 with
        | [d], _ => exact ⟨d, rfl⟩
      have hjl : 0 < ds.length := by rw [HFL.out]; decide
      obtain ⟨g, u, hfa, hg, hc, hrd⟩ := HD.out.at hjl (d := d) (by simp [Hd.out])
      obtain ⟨ua, uc, hu, hum⟩ := hrd.form
      subst hu
      subst hfa
      have HS := refReadShort_any _ d W1 hrd
      obtain ⟨UL, HUL⟩ := hid_ex d.length
      rw [← HUL.out] at HS hc hum
      unfold maxLen at hum
      obtain ⟨V, HV⟩ := hid_ex (rsF d 0 0).1
      obtain ⟨U, HU⟩ := hid_ex (rsF d 0 0).2.1
      obtain ⟨E2, HE2⟩ := hid_ex (rsF d 0 0).2.2
      rw [← HV.out, ← HU.out, ← HE2.out] at HS
      have HS' : Hid (Calls Tryz.prog 42 #[.slice ua UL uc] W1 _) := HS
      have HC : Hid (W1.cell? ⟨g, 0, none⟩ = some (.slice ua UL uc)) := hc
      have HG : Hid (g < W1.heap.size) := hg
      have HAF1 : Hid (AF = [(d, KS)]) := by
        have h1 := HDs.out
        rw [Hd.out] at h1
        have h2 := HKS.out
        match AF, h1, h2 with
        | [(x, k)], h1, h2 =>
          simp only [List.map_cons, List.map_nil, List.cons.injEq, and_true] at h1
          simp only [ksum, List.map_cons, List.map_nil, List.sum_cons, List.sum_nil, Nat.add_zero] at h2
          unfold Hid
          rw [h1, h2]
      have HPt : Hid (E2 = 0 → U = UL → V ≤ 1099511627776 → PV = (V : Int)) := fun h1 h2 h3 => by
        rw [HPV.out]
        refine pt_of (k := KS) (by rw [← HAs.out]; exact HAF1.out) HBL.out ?_ h3
        rw [HV.out, ← HUL.out, ← h2, HU.out, ← h1, HE2.out]
      have HVs : Hid (∀ v : Int, AF = [(sh v.toNat, KS)] → rsF (sh v.toNat) 0 0 = (v.toNat, (sh v.toNat).length, 0) → E2 = 0 ∧ U = UL ∧ (V : Int) = v.toNat) := fun v h1 h2 => by
        rw [HAF1.out] at h1
        simp only [List.cons.injEq, Prod.mk.injEq, and_true] at h1
        rw [← h1] at h2
        rw [HE2.out, HU.out, HV.out, HUL.out, h2]
        exact ⟨rfl, rfl, rfl⟩
      clear HS hrd
      go_wp2_with fail
      refine HS'.out.mono ?_
      rintro e W2 ⟨rfl, hb2⟩
      have HB2 : Hid (Below w.heap.size w W2) := HB1.out.trans (hb2.mono HB1.out.size)
      have hc2 : W2.cell? ⟨g, 0, none⟩ = some (.slice ua UL uc) := by rw [hb2.cell HG.out]; exact HC.out
      clear hb2 HS' hc hg
      by_cases h1 : E2 = 0
      · subst h1
        by_cases h2 : U = UL
        · subst h2
          by_cases h3 : 1099511627776 < V
          · have h3' : (1099511627776 : Int) < (V : Int) := by omega
            have HP0 : Hid (PV = 0) := HNone.out fun v _ g1 g2 _ g4 => by have := (HVs.out v g1 g2).2.2; omega
            go_wp2_with fail
            go_ret
            exact ⟨by rw [HP0.out]; rfl, HB2.out⟩
          · have h3' : ¬ (1099511627776 : Int) < (V : Int) := by omega
            have d3 : decide ((1099511627776 : Int) < (V : Int)) = false := decide_eq_false h3'
            have hw : IntKind.i64.wrap (V : Int) = (V : Int) := Go.IntWalk.i64_in _ (by omega)
            have HP0 : Hid (PV = (V : Int)) := HPt.out rfl rfl (by omega)
            go_wp2_with fail
            go_ret
            exact ⟨by rw [HP0.out]; rfl, HB2.out⟩
        · have h2' : ((U : Int) != (UL : Int)) = true := by simp; omega
          have h2'' : ¬ (U : Int) = (UL : Int) := by omega
          have HP0 : Hid (PV = 0) := HNone.out fun v _ g1 g2 _ _ => h2 (HVs.out v g1 g2).2.1
          go_wp2_with fail
          go_ret
          exact ⟨by rw [HP0.out]; rfl, HB2.out⟩
      · have h1' : (E2 != 0) = true := by simpa using h1
        have HP0 : Hid (PV = 0) := HNone.out fun v _ g1 g2 _ _ => h1 (HVs.out v g1 g2).1
        go_wp2_with fail
        go_ret
        exact ⟨by rw [HP0.out]; rfl, HB2.out⟩
    · have hK' : ((KS : Int) != (BL : Int)) = true := by simp; omega
      have hK'' : ¬ (KS : Int) = (BL : Int) := by omega
      have HP0 : Hid (PV = 0) := HNone.out fun v _ g1 _ _ _ => hK (by rw [HKS.out, g1]; simp [ksum])
      have hF' : ((FL : Int) != 1) = false := by subst hF; rfl
      subst hF
      go_wp2_with fail
      go_ret
      exact ⟨by rw [HP0.out]; rfl, HB1.out⟩
  · have hF' : ((FL : Int) != 1) = true := by simp; omega
    have hF'' : ¬ (FL : Int) = 1 := by omega
    have HP0 : Hid (PV = 0) := HNone.out fun v _ g1 _ _ _ => hF (by rw [← HFL.out, HDs.out, g1]; rfl)
    go_wp2_with fail
    go_ret
    exact ⟨by rw [HP0.out]; rfl, HB1.out⟩
end Go.Proofs.YtilbffgpniomcaaGreatDoor
