/- R6 R7 WN0 WIt MN1, joined. -/
import Derived.Test.YtilbffgpniomcaaGreatDoorLD1
import Derived.Test.YtilbffgpniomcaaGreatDoorLD4
import Derived.Test.YtilbffgpniomcaaGreatDoorLD26
import Derived.Lib.AtoiAll
import Derived.Lib.AtoiAllCases
import Derived.Lib.ItoaNum
import Derived.Lib.ItoaMem
import Derived.Shelf.LaysM
import Derived.Shelf.Strconv.Itoa3
import Derived.Test.YtilbffgpniomcaaGreatDoorRows
import Derived.Lib.AppendIntMem
/- The reference's Frame and Next. -/
namespace Go.Proofs.YtilbffgpniomcaaGreatDoor
open Go.RowKit

set_option maxRecDepth 100000 in
set_option maxHeartbeats 1000000 in
theorem refFrame_any (v : Value) (l : List UInt8) (hl : l.length ≤ 65535) (w : World) (hr : Reads w v l) :
    Calls Tryz.prog 24 #[v] w fun e w' => ∃ v', e = .returned (.tuple #[v', .int .i64 0]) ∧ Own w' w.heap.size v' (frm l) ∧ Below w.heap.size w w' := by
  obtain ⟨a, cap, rfl, _⟩ := hr.form
  have g1 : ¬ (65535 : Int) < (l.length : Int) := by omega
  have hwr : IntKind.u32.wrap (l.length : Int) = (l.length : Int) := by simp [IntKind.wrap, IntKind.bits, IntKind.signed]; omega
  have HR : Hid (Reads w (.slice a l.length cap) l) := hr
  clear hr
  go_enter Tryz.func24, Tryz.ntmps24
  go_wp2_with fail
  refine (refFour_any l.length (by omega) _).mono ?_
  rintro e w1 ⟨v1, rfl, HO1, hb1⟩
  have HB1 : Hid (Below w.heap.size w w1) := hb1
  have hr1 : Reads w1 _ l := HR.out.below hb1
  have hsz1 := hb1.size
  obtain ⟨M, HM⟩ := hid_ex (four l.length ++ l)
  have hml : M.length = 4 + l.length := by rw [HM.out, List.length_append]; rfl
  have HML : Hid (M.length = 4 + l.length) := hml
  clear hb1 hml
  go_wp2_with (at_builtin; refine wpList_app rfl _ _ rfl w.heap.size _ _ (four l.length) l M HM.out rfl rfl HO1 hr1 (by simp [four_len]; omega) hsz1 ?_)
  intro v2 w2 HO2 hb2
  have HB2 : Hid (Below w.heap.size w w2) := HB1.out.trans hb2.out
  have HP2 : Hid (Own w2 w.heap.size v2 M) := HO2
  clear HO1 hr1 hb2 HB1 hsz1 HO2
  go_wp2_with fail
  refine (refSum_any _ M _ HP2.out.reads).mono ?_
  rintro e w3 ⟨rfl, hw⟩
  subst w3
  go_wp2_with fail
  refine (refFour_any (mor 0 M) (mor_lt _ _) _).mono ?_
  rintro e w3 ⟨v3, rfl, HO3, hb3⟩
  have HB3 : Hid (Below w.heap.size w w3) := HB2.out.trans (hb3.mono HB2.out.size)
  have HP3 : Hid (Own w3 w.heap.size v2 M) := HP2.out.below hb3
  have hsz3 := HB3.out.size
  have hr3 := HO3.reads
  clear hb3 HB2 HP2 HO3
  obtain ⟨G, HG⟩ := hid_ex (M ++ four (mor 0 M))
  go_wp2_with (at_builtin; refine wpList_app rfl _ _ rfl w.heap.size _ _ M (four (mor 0 M)) G HG.out rfl rfl HP3.out hr3 (by rw [HML.out]; simp [four_len]; omega) hsz3 ?_)
  intro v4 w4 HO4 hb4
  have HB4 : Hid (Below w.heap.size w w4) := HB3.out.trans hb4.out
  have HP4 : Hid (Own w4 w.heap.size v4 (frm l)) := by
    have : frm l = G := by rw [HG.out, HM.out]; rfl
    rw [this]; exact HO4
  clear HO4 hb4 HB3 HP3 hr3 HG HM HML
  go_wp2_with fail
  go_ret2
  exact ⟨_, rfl, HP4.out, HB4.out⟩
set_option maxRecDepth 100000 in
set_option maxHeartbeats 1000000 in
theorem refFrame_long (v : Value) (l : List UInt8) (hl : 65535 < l.length) (w : World) (hr : Reads w v l) :
    Calls Tryz.prog 24 #[v] w fun e w' => e = .returned (.tuple #[.slice none 0 0, .int .i64 2]) ∧ w' = w := by
  obtain ⟨a, cap, rfl, _⟩ := hr.form
  clear hr
  have h1 : (65535 : Int) < (l.length : Int) := by omega
  go_enter Tryz.func24, Tryz.ntmps24
  go_wp2_with fail
  go_ret2
  exact ⟨rfl, rfl⟩
theorem four_vle : ∀ (t : List UInt8), t.length = 4 → four (vle t) = t
  | [a, b, c, d], _ => by
    have ha := a.toNat_lt
    have hb := b.toNat_lt
    have hc := c.toNat_lt
    have hd := d.toNat_lt
    simp only [four, vle, List.cons.injEq, and_true]
    refine ⟨?_, ?_, ?_, ?_⟩ <;> (apply UInt8.toNat_inj.1; rw [UInt8.toNat_ofNat']; omega)
theorem four_iff (t : List UInt8) (h : t.length = 4) (x : Nat) (hx : x < 4294967296) : four x = t ↔ vle t = x := by
  constructor
  · intro e; rw [← e]; exact vle_four' x hx
  · intro e; rw [← e]; exact four_vle t h
set_option maxRecDepth 100000 in
set_option maxHeartbeats 1000000 in
theorem refNext_any (v : Value) (l : List UInt8) (hll : l.length ≤ 100000) (w : World) (hr : Reads w v l) :
    Calls Tryz.prog 77 #[v] w fun e w' => ∃ v', e = .returned (.tuple #[v', .int .i64 ((nxF l).2.1 : Nat), .int .i64 (nxF l).2.2]) ∧ Own w' w.heap.size v' (nxF l).1 ∧ Below w.heap.size w w' := by
  obtain ⟨a, cap, rfl, _⟩ := hr.form
  by_cases h4 : (l.length : Int) < 4
  · have e : nxF l = ([], 0, 10) := by rw [nxF, if_pos (by omega)]
    rw [e]
    clear hr e
    go_enter Tryz.func77, Tryz.ntmps77
    go_wp2_with fail
    refine bodyPost_ret (results_tmp3 rfl _ _ _) rfl ?_
    exact ⟨_, rfl, Own.nil _ _, Below.refl _ _⟩
  · obtain ⟨n, HN⟩ := hid_ex (vle (l.take 4))
    have HR : Hid (Reads w (.slice a l.length cap) l) := hr
    have hn : n < 4294967296 := by rw [HN.out]; exact vle_four_lt (by simp; omega)
    have hnum := refNumber_any _ l (by omega) _ hr
    rw [← HN.out] at hnum
    have HNU : Hid _ := hnum
    clear hr hnum
    by_cases h5 : (65535 : Int) < (n : Int)
    · have e : nxF l = ([], 0, 2) := by rw [nxF, if_neg (by omega), ← HN.out, if_pos (by omega)]
      rw [e]
      clear e HN
      go_enter Tryz.func77, Tryz.ntmps77
      go_wp2_with fail
      refine Calls.mono HNU.out ?_
      rintro e w1 ⟨rfl, hb1⟩
      have HB1 : Hid (Below w.heap.size w w1) := hb1
      clear hb1
      go_wp2_with fail
      refine bodyPost_ret (results_tmp3 rfl _ _ _) rfl ?_
      exact ⟨_, rfl, Own.nil _ _, HB1.out⟩
    · by_cases h6 : (l.length : Int) < 8 + (n : Int)
      · have e : nxF l = ([], 0, 10) := by rw [nxF, if_neg (by omega), ← HN.out, if_neg (by omega), if_pos (by omega)]
        rw [e]
        clear e HN
        go_enter Tryz.func77, Tryz.ntmps77
        go_wp2_with fail
        refine Calls.mono HNU.out ?_
        rintro e w1 ⟨rfl, hb1⟩
        have HB1 : Hid (Below w.heap.size w w1) := hb1
        clear hb1
        go_wp2_with fail
        refine bodyPost_ret (results_tmp3 rfl _ _ _) rfl ?_
        exact ⟨_, rfl, Own.nil _ _, HB1.out⟩
      · obtain ⟨b, off, rfl, hb, _⟩ := HR.out.at 0 (by omega)
        have hcap := HR.out.cap (by omega)
        have j1 : (4 : Int) + (n : Int) ≤ (cap : Int) := by omega
        have j2 : (8 : Int) + (n : Int) ≤ (cap : Int) := by omega
        have j3 : (4 : Int) + (n : Int) ≤ 8 + (n : Int) := by omega
        have j4 : IntKind.i64.wrap (4 + (n : Int)) = 4 + (n : Int) := by simp [IntKind.wrap, IntKind.bits, IntKind.signed]; omega
        have j5 : IntKind.i64.wrap (8 + (n : Int)) = 8 + (n : Int) := by simp [IntKind.wrap, IntKind.bits, IntKind.signed]; omega
        have j6 : (0 : Int) ≤ 4 + (n : Int) := by omega
        have j7 : (0 : Int) ≤ 8 + (n : Int) := by omega
        have j8 : (4 + (n : Int)).toNat = 4 + n := by omega
        have j9 : (8 + (n : Int)).toNat = 8 + n := by omega
        have j10 : ¬ cap = 4 + n := by omega
        have j11 : 8 + n - (4 + n) = 4 := by omega
        obtain ⟨A, HA⟩ := hid_ex (l.take (4 + n))
        obtain ⟨S, HS⟩ := hid_ex ((l.drop (4 + n)).take 4)
        obtain ⟨D, HD⟩ := hid_ex ((l.drop 4).take n)
        have HAR : Hid (∀ w', Below w.heap.size w w' → Reads w' (.slice (some ⟨b, off, none⟩) (4 + n) cap) A) := by
          intro w' hb'; rw [HA.out]; exact (HR.out.below hb').take (by omega)
        have HSR : Hid (∀ w', Below w.heap.size w w' → Reads w' (.slice (some ⟨b, off + (4 + n), none⟩) 4 (cap - (4 + n))) S) := by
          intro w' hb'
          have h := ((HR.out.below hb').drop (c := 4 + n) (by omega) b off rfl).1 (by omega)
          rw [← List.length_drop] at h
          rw [HS.out]; exact h.take (by simp; omega)
        have HDR : Hid (∀ w', Below w.heap.size w w' → Reads w' (.slice (some ⟨b, off + 4, none⟩) n (cap - 4)) D) := by
          intro w' hb'
          have h := ((HR.out.below hb').drop (c := 4) (by omega) b off rfl).1 (by omega)
          rw [← List.length_drop] at h
          rw [HD.out]; exact h.take (by simp; omega)
        have hiff := four_iff S (by rw [HS.out]; simp; omega) (mor 0 A) (mor_lt _ _)
        by_cases hsum : vle S = mor 0 A
        · have e : nxF l = (D, n + 8, 0) := by
            rw [nxF, if_neg (by omega), ← HN.out, if_neg (by omega), if_neg (by omega), ← HS.out, ← HA.out, if_neg (by simpa using hsum), ← HD.out]
          have HE : Hid (four (mor 0 A) = S) := hiff.2 hsum
          have hDl : D.length = n := by rw [HD.out]; simp; omega
          have HDL : Hid (D.length = n) := hDl
          rw [e]
          clear e HN HS HA HD hiff hsum HR hDl
          go_enter Tryz.func77, Tryz.ntmps77
          go_wp2_with fail
          refine Calls.mono HNU.out ?_
          rintro e w1 ⟨rfl, hb1⟩
          have HB1 : Hid (Below w.heap.size w w1) := hb1
          clear hb1
          go_wp2_with fail
          refine wp_region_noPanic ?_
          refine wp_region_held_drew (S := (fun w' => Below w.heap.size w w')) (by kernel_rfl) ?_ (fun hHeld => ?_)
          · exact HB1.out.drew
          refine wpAnyH_take (i := 0) (v := .slice (some ⟨b, off, none⟩) l.length cap) rfl (by kernel_rfl) (by kernel_rfl) (by kernel_rfl) (fun _ _ _ h => h) (Or.inl ⟨by rfl, ?_⟩) (by assumption) ?_
          · (intro w1 hSw; (try dsimp only at hSw); go_simp)
          simp only [List.getElem_toArray, List.getElem_cons_zero, Act.put, List.setIfInBounds_toArray, List.set_cons_zero, List.set_cons_succ]
          refine wpAnyH_take (i := 1) (v := .int .i64 (n : Int)) rfl (by kernel_rfl) (by kernel_rfl) (by kernel_rfl) (fun _ _ _ h => h) (Or.inl ⟨by rfl, ?_⟩) (by assumption) ?_
          · (intro w1 hSw; (try dsimp only at hSw); go_simp)
          simp only [List.getElem_toArray, List.getElem_cons_succ, List.getElem_cons_zero, Act.put, List.setIfInBounds_toArray, List.set_cons_zero, List.set_cons_succ]
          refine wpAnyH_take (i := 2) (v := .int .i64 (4 + (n : Int))) rfl (by kernel_rfl) (by kernel_rfl) (by kernel_rfl) (fun _ _ _ h => h) (Or.inl ⟨by rfl, ?_⟩) (by assumption) ?_
          · (intro w1 hSw; (try dsimp only at hSw); go_simp)
          simp only [List.getElem_toArray, List.getElem_cons_succ, List.getElem_cons_zero, Act.put, List.setIfInBounds_toArray, List.set_cons_zero, List.set_cons_succ]
          refine wpAnyH_take (i := 3) (v := .slice (some ⟨b, off, none⟩) (4 + n) cap) rfl (by kernel_rfl) (by kernel_rfl) (by kernel_rfl) (fun _ _ _ h => h) (Or.inl ⟨by rfl, ?_⟩) (by assumption) ?_
          · (intro w1 hSw; (try dsimp only at hSw); go_simp)
          simp only [List.getElem_toArray, List.getElem_cons_succ, List.getElem_cons_zero, Act.put, List.setIfInBounds_toArray, List.set_cons_zero, List.set_cons_succ]
          refine wpAnyH_take (i := 7) (v := .slice (some ⟨b, off, none⟩) l.length cap) rfl (by kernel_rfl) (by kernel_rfl) (by kernel_rfl) (fun _ _ _ h => h) (Or.inl ⟨by rfl, ?_⟩) (by assumption) ?_
          · (intro w1 hSw; (try dsimp only at hSw); go_simp)
          simp only [List.getElem_toArray, List.getElem_cons_succ, List.getElem_cons_zero, Act.put, List.setIfInBounds_toArray, List.set_cons_zero, List.set_cons_succ]
          refine wpAnyH_take (i := 8) (v := .int .i64 (n : Int)) rfl (by kernel_rfl) (by kernel_rfl) (by kernel_rfl) (fun _ _ _ h => h) (Or.inl ⟨by rfl, ?_⟩) (by assumption) ?_
          · (intro w1 hSw; (try dsimp only at hSw); go_simp)
          simp only [List.getElem_toArray, List.getElem_cons_succ, List.getElem_cons_zero, Act.put, List.setIfInBounds_toArray, List.set_cons_zero, List.set_cons_succ]
          refine wpAnyH_take (i := 9) (v := .int .i64 (4 + (n : Int))) rfl (by kernel_rfl) (by kernel_rfl) (by kernel_rfl) (fun _ _ _ h => h) (Or.inl ⟨by rfl, ?_⟩) (by assumption) ?_
          · (intro w1 hSw; (try dsimp only at hSw); go_simp)
          simp only [List.getElem_toArray, List.getElem_cons_succ, List.getElem_cons_zero, Act.put, List.setIfInBounds_toArray, List.set_cons_zero, List.set_cons_succ]
          refine wpAnyH_take (i := 10) (v := .int .i64 (n : Int)) rfl (by kernel_rfl) (by kernel_rfl) (by kernel_rfl) (fun _ _ _ h => h) (Or.inl ⟨by rfl, ?_⟩) (by assumption) ?_
          · (intro w1 hSw; (try dsimp only at hSw); go_simp)
          simp only [List.getElem_toArray, List.getElem_cons_succ, List.getElem_cons_zero, Act.put, List.setIfInBounds_toArray, List.set_cons_zero, List.set_cons_succ]
          refine wpAnyH_take (i := 11) (v := .int .i64 (8 + (n : Int))) rfl (by kernel_rfl) (by kernel_rfl) (by kernel_rfl) (fun _ _ _ h => h) (Or.inl ⟨by rfl, ?_⟩) (by assumption) ?_
          · (intro w1 hSw; (try dsimp only at hSw); go_simp)
          simp only [List.getElem_toArray, List.getElem_cons_succ, List.getElem_cons_zero, Act.put, List.setIfInBounds_toArray, List.set_cons_zero, List.set_cons_succ]
          refine wpAnyH_take (i := 12) (v := .slice (some ⟨b, off + (4 + n), none⟩) 4 (cap - (4 + n))) rfl (by kernel_rfl) (by kernel_rfl) (by kernel_rfl) (fun _ _ _ h => h) (Or.inl ⟨by rfl, ?_⟩) (by assumption) ?_
          · (intro w1 hSw; (try dsimp only at hSw); go_simp)
          simp only [List.getElem_toArray, List.getElem_cons_succ, List.getElem_cons_zero, Act.put, List.setIfInBounds_toArray, List.set_cons_zero, List.set_cons_succ]
          refine wpAnyH_take (i := 13) (v := .string ⟨S.toArray⟩) rfl (by kernel_rfl) (by kernel_rfl) (by kernel_rfl) (fun _ _ _ h => h) (Or.inl ⟨by rfl, ?_⟩) (by assumption) ?_
          · (intro w1 hSw; (try dsimp only at hSw); have hcv := reads_text (HSR.out _ hSw); go_simp)
          simp only [List.getElem_toArray, List.getElem_cons_succ, List.getElem_cons_zero, Act.put, List.setIfInBounds_toArray, List.set_cons_zero, List.set_cons_succ]
          refine wpAnyH_ready (rs := [4]) (by kernel_rfl) (by simp) ?_
          refine AllReadyH.cons (o := _) rfl (fun K hK => ?_) AllReadyH.nil
          go_simp
          refine (refSum_any _ A _ (HAR.out _ hHeld)).mono ?_
          rintro e w2 ⟨rfl, hw⟩
          subst w2
          go_wp2_with fail
          refine hK.out _ _ ?_ (fun hHeld => ?_)
          · exact hHeld
          clear hK K
          refine wpAnyH_ready (rs := [5]) (by kernel_rfl) (by simp) ?_
          refine AllReadyH.cons (o := _) rfl (fun K hK => ?_) AllReadyH.nil
          go_simp
          refine (refFour_any (mor 0 A) (mor_lt _ _) _).mono ?_
          rintro e w2 ⟨v2, rfl, HO2, hb2⟩
          go_wp2_with fail
          refine hK.out _ _ ?_ (fun hHeld => ?_)
          · exact hHeld.trans (hb2.mono hHeld.size)
          clear hK K
          refine wpAnyH_sub (S' := fun w' => (Below w.heap.size w w') ∧ (Reads w' v2 (four (mor 0 A)) ∧ w2.heap.size ≤ w'.heap.size)) (fun _ h => h.1) _ _ _ _ ?_
          have hHeld : (Below w.heap.size w w2) ∧ (Reads w2 v2 (four (mor 0 A)) ∧ w2.heap.size ≤ w2.heap.size) := ⟨hHeld, ⟨HO2.reads, Nat.le_refl _⟩⟩
          clear hb2 HO2
          refine wpAnyH_take (i := 6) (v := .string ⟨(four (mor 0 A)).toArray⟩) rfl (by kernel_rfl) (by kernel_rfl) (by kernel_rfl) (fun _ _ _ h => h) (Or.inl ⟨by rfl, ?_⟩) (by assumption) ?_
          · (intro w1 hSw; (try dsimp only at hSw); have hcv := reads_text hSw.2.1; go_simp)
          simp only [List.getElem_toArray, List.getElem_cons_succ, List.getElem_cons_zero, Act.put, List.setIfInBounds_toArray, List.set_cons_zero, List.set_cons_succ]
          rw [HE.out] at hHeld ⊢
          refine wpAnyH_take (i := 14) (v := .bool false) rfl (by kernel_rfl) (by kernel_rfl) (by kernel_rfl) (fun _ _ _ h => h) (Or.inl ⟨by rfl, ?_⟩) (by assumption) ?_
          · (intro w1 hSw; (try dsimp only at hSw); go_simp)
          simp only [List.getElem_toArray, List.getElem_cons_succ, List.getElem_cons_zero, Act.put, List.setIfInBounds_toArray, List.set_cons_zero, List.set_cons_succ]
          refine wpAnyH_done (by kernel_rfl) ?_ _
          refine NoPanic.normal ?_
          have HB9 : Hid (Below w.heap.size w _) := hHeld.1
          clear hHeld
          go_wp2_with fail
          refine (copy_any _ D (by rw [HDL.out]; omega) _ (HDR.out _ HB9.out)).mono ?_
          rintro e w3 ⟨v3, rfl, HO3, hb3⟩
          have HB3 : Hid (Below w.heap.size w w3) := HB9.out.trans (hb3.mono HB9.out.size)
          have HP3 : Hid (Own w3 w.heap.size v3 D) := HO3.mono HB9.out.size
          clear hb3 HO3 HB9
          go_wp2_with fail
          refine bodyPost_ret (results_tmp3 rfl _ _ _) rfl ?_
          exact ⟨v3, tup3 (by omega), HP3.out, HB3.out⟩
        · have e : nxF l = ([], 0, 20) := by
            rw [nxF, if_neg (by omega), ← HN.out, if_neg (by omega), if_neg (by omega), ← HS.out, ← HA.out, if_pos (by simpa using hsum)]
          have hne : (four (mor 0 A) == S) = false := by
            simp only [beq_eq_false_iff_ne]
            exact fun h => hsum (hiff.1 h)
          rw [e]
          clear e HN HS HA HD hiff hsum HR
          go_enter Tryz.func77, Tryz.ntmps77
          go_wp2_with fail
          refine Calls.mono HNU.out ?_
          rintro e w1 ⟨rfl, hb1⟩
          have HB1 : Hid (Below w.heap.size w w1) := hb1
          clear hb1
          go_wp2_with fail
          refine wp_region_noPanic ?_
          refine wp_region_held_drew (S := (fun w' => Below w.heap.size w w')) (by kernel_rfl) ?_ (fun hHeld => ?_)
          · exact HB1.out.drew
          refine wpAnyH_take (i := 0) (v := .slice (some ⟨b, off, none⟩) l.length cap) rfl (by kernel_rfl) (by kernel_rfl) (by kernel_rfl) (fun _ _ _ h => h) (Or.inl ⟨by rfl, ?_⟩) (by assumption) ?_
          · (intro w1 hSw; (try dsimp only at hSw); go_simp)
          simp only [List.getElem_toArray, List.getElem_cons_zero, Act.put, List.setIfInBounds_toArray, List.set_cons_zero, List.set_cons_succ]
          refine wpAnyH_take (i := 1) (v := .int .i64 (n : Int)) rfl (by kernel_rfl) (by kernel_rfl) (by kernel_rfl) (fun _ _ _ h => h) (Or.inl ⟨by rfl, ?_⟩) (by assumption) ?_
          · (intro w1 hSw; (try dsimp only at hSw); go_simp)
          simp only [List.getElem_toArray, List.getElem_cons_succ, List.getElem_cons_zero, Act.put, List.setIfInBounds_toArray, List.set_cons_zero, List.set_cons_succ]
          refine wpAnyH_take (i := 2) (v := .int .i64 (4 + (n : Int))) rfl (by kernel_rfl) (by kernel_rfl) (by kernel_rfl) (fun _ _ _ h => h) (Or.inl ⟨by rfl, ?_⟩) (by assumption) ?_
          · (intro w1 hSw; (try dsimp only at hSw); go_simp)
          simp only [List.getElem_toArray, List.getElem_cons_succ, List.getElem_cons_zero, Act.put, List.setIfInBounds_toArray, List.set_cons_zero, List.set_cons_succ]
          refine wpAnyH_take (i := 3) (v := .slice (some ⟨b, off, none⟩) (4 + n) cap) rfl (by kernel_rfl) (by kernel_rfl) (by kernel_rfl) (fun _ _ _ h => h) (Or.inl ⟨by rfl, ?_⟩) (by assumption) ?_
          · (intro w1 hSw; (try dsimp only at hSw); go_simp)
          simp only [List.getElem_toArray, List.getElem_cons_succ, List.getElem_cons_zero, Act.put, List.setIfInBounds_toArray, List.set_cons_zero, List.set_cons_succ]
          refine wpAnyH_take (i := 7) (v := .slice (some ⟨b, off, none⟩) l.length cap) rfl (by kernel_rfl) (by kernel_rfl) (by kernel_rfl) (fun _ _ _ h => h) (Or.inl ⟨by rfl, ?_⟩) (by assumption) ?_
          · (intro w1 hSw; (try dsimp only at hSw); go_simp)
          simp only [List.getElem_toArray, List.getElem_cons_succ, List.getElem_cons_zero, Act.put, List.setIfInBounds_toArray, List.set_cons_zero, List.set_cons_succ]
          refine wpAnyH_take (i := 8) (v := .int .i64 (n : Int)) rfl (by kernel_rfl) (by kernel_rfl) (by kernel_rfl) (fun _ _ _ h => h) (Or.inl ⟨by rfl, ?_⟩) (by assumption) ?_
          · (intro w1 hSw; (try dsimp only at hSw); go_simp)
          simp only [List.getElem_toArray, List.getElem_cons_succ, List.getElem_cons_zero, Act.put, List.setIfInBounds_toArray, List.set_cons_zero, List.set_cons_succ]
          refine wpAnyH_take (i := 9) (v := .int .i64 (4 + (n : Int))) rfl (by kernel_rfl) (by kernel_rfl) (by kernel_rfl) (fun _ _ _ h => h) (Or.inl ⟨by rfl, ?_⟩) (by assumption) ?_
          · (intro w1 hSw; (try dsimp only at hSw); go_simp)
          simp only [List.getElem_toArray, List.getElem_cons_succ, List.getElem_cons_zero, Act.put, List.setIfInBounds_toArray, List.set_cons_zero, List.set_cons_succ]
          refine wpAnyH_take (i := 10) (v := .int .i64 (n : Int)) rfl (by kernel_rfl) (by kernel_rfl) (by kernel_rfl) (fun _ _ _ h => h) (Or.inl ⟨by rfl, ?_⟩) (by assumption) ?_
          · (intro w1 hSw; (try dsimp only at hSw); go_simp)
          simp only [List.getElem_toArray, List.getElem_cons_succ, List.getElem_cons_zero, Act.put, List.setIfInBounds_toArray, List.set_cons_zero, List.set_cons_succ]
          refine wpAnyH_take (i := 11) (v := .int .i64 (8 + (n : Int))) rfl (by kernel_rfl) (by kernel_rfl) (by kernel_rfl) (fun _ _ _ h => h) (Or.inl ⟨by rfl, ?_⟩) (by assumption) ?_
          · (intro w1 hSw; (try dsimp only at hSw); go_simp)
          simp only [List.getElem_toArray, List.getElem_cons_succ, List.getElem_cons_zero, Act.put, List.setIfInBounds_toArray, List.set_cons_zero, List.set_cons_succ]
          refine wpAnyH_take (i := 12) (v := .slice (some ⟨b, off + (4 + n), none⟩) 4 (cap - (4 + n))) rfl (by kernel_rfl) (by kernel_rfl) (by kernel_rfl) (fun _ _ _ h => h) (Or.inl ⟨by rfl, ?_⟩) (by assumption) ?_
          · (intro w1 hSw; (try dsimp only at hSw); go_simp)
          simp only [List.getElem_toArray, List.getElem_cons_succ, List.getElem_cons_zero, Act.put, List.setIfInBounds_toArray, List.set_cons_zero, List.set_cons_succ]
          refine wpAnyH_take (i := 13) (v := .string ⟨S.toArray⟩) rfl (by kernel_rfl) (by kernel_rfl) (by kernel_rfl) (fun _ _ _ h => h) (Or.inl ⟨by rfl, ?_⟩) (by assumption) ?_
          · (intro w1 hSw; (try dsimp only at hSw); have hcv := reads_text (HSR.out _ hSw); go_simp)
          simp only [List.getElem_toArray, List.getElem_cons_succ, List.getElem_cons_zero, Act.put, List.setIfInBounds_toArray, List.set_cons_zero, List.set_cons_succ]
          refine wpAnyH_ready (rs := [4]) (by kernel_rfl) (by simp) ?_
          refine AllReadyH.cons (o := _) rfl (fun K hK => ?_) AllReadyH.nil
          go_simp
          refine (refSum_any _ A _ (HAR.out _ hHeld)).mono ?_
          rintro e w2 ⟨rfl, hw⟩
          subst w2
          go_wp2_with fail
          refine hK.out _ _ ?_ (fun hHeld => ?_)
          · exact hHeld
          clear hK K
          refine wpAnyH_ready (rs := [5]) (by kernel_rfl) (by simp) ?_
          refine AllReadyH.cons (o := _) rfl (fun K hK => ?_) AllReadyH.nil
          go_simp
          refine (refFour_any (mor 0 A) (mor_lt _ _) _).mono ?_
          rintro e w2 ⟨v2, rfl, HO2, hb2⟩
          go_wp2_with fail
          refine hK.out _ _ ?_ (fun hHeld => ?_)
          · exact hHeld.trans (hb2.mono hHeld.size)
          clear hK K
          refine wpAnyH_sub (S' := fun w' => (Below w.heap.size w w') ∧ (Reads w' v2 (four (mor 0 A)) ∧ w2.heap.size ≤ w'.heap.size)) (fun _ h => h.1) _ _ _ _ ?_
          have hHeld : (Below w.heap.size w w2) ∧ (Reads w2 v2 (four (mor 0 A)) ∧ w2.heap.size ≤ w2.heap.size) := ⟨hHeld, ⟨HO2.reads, Nat.le_refl _⟩⟩
          clear hb2 HO2
          refine wpAnyH_take (i := 6) (v := .string ⟨(four (mor 0 A)).toArray⟩) rfl (by kernel_rfl) (by kernel_rfl) (by kernel_rfl) (fun _ _ _ h => h) (Or.inl ⟨by rfl, ?_⟩) (by assumption) ?_
          · (intro w1 hSw; (try dsimp only at hSw); have hcv := reads_text hSw.2.1; go_simp)
          simp only [List.getElem_toArray, List.getElem_cons_succ, List.getElem_cons_zero, Act.put, List.setIfInBounds_toArray, List.set_cons_zero, List.set_cons_succ]
          refine wpAnyH_take (i := 14) (v := .bool true) rfl (by kernel_rfl) (by kernel_rfl) (by kernel_rfl) (fun _ _ _ h => h) (Or.inl ⟨by rfl, ?_⟩) (by assumption) ?_
          · (intro w1 hSw; (try dsimp only at hSw); go_simp)
          simp only [List.getElem_toArray, List.getElem_cons_succ, List.getElem_cons_zero, Act.put, List.setIfInBounds_toArray, List.set_cons_zero, List.set_cons_succ]
          refine wpAnyH_done (by kernel_rfl) ?_ _
          refine NoPanic.normal ?_
          have HB9 : Hid (Below w.heap.size w _) := hHeld.1
          clear hHeld
          go_wp2_with fail
          refine bodyPost_ret (results_tmp3 rfl _ _ _) rfl ?_
          exact ⟨_, rfl, Own.nil _ _, HB9.out⟩
end Go.Proofs.YtilbffgpniomcaaGreatDoor

/- The reference's All. -/
namespace Go.Proofs.YtilbffgpniomcaaGreatDoor
open Go.RowKit

set_option maxRecDepth 100000 in
set_option maxHeartbeats 1000000 in
theorem refAll_any (v : Value) (bs : List UInt8) (hbl : bs.length ≤ 100000) (w : World) (hR : Reads w v bs) :
    Calls Tryz.prog 40 #[v] w fun e W' => ∃ (vl : Value) (xs : List Fr), e = .returned (.tuple #[vl, .int .i64 (ksum (alF (bs.length + 1) bs) : Nat)]) ∧ xs.map Fr.p = alF (bs.length + 1) bs ∧ W'.ownsRow w.heap.size 22 1 vl xs.length (xs.map Fr.v) ∧ (∀ x ∈ xs, Own W' w.heap.size x.v x.D) ∧ Below w.heap.size w W' := by
  obtain ⟨a, cap, rfl, _⟩ := hR.form
  have HR : Hid (Reads w (.slice a bs.length cap) bs) := hR
  clear hR
  go_enter Tryz.func40, Tryz.ntmps40
  go_wp2_with fail
  go_loopw [4, 5] (fun o x wr => ∃ (m k : Nat) (pre : List Fr), k ≤ bs.length ∧ x = .int .i64 (k : Int) ∧ bs.length - k < m ∧ Hid (alF (bs.length + 1) bs = pre.map Fr.p ++ alF m (bs.drop k)) ∧ Hid (ksum (pre.map Fr.p) = k) ∧ 8 * pre.length ≤ k ∧ Hid (wr.ownsRow w.heap.size 22 1 o pre.length (pre.map Fr.v)) ∧ Hid (∀ x ∈ pre, Own wr w.heap.size x.v x.D) ∧ Hid (Below w.heap.size w wr)) (fun _ x _ => bs.length - (intOf x).toNat)
  case atStart => exact ⟨bs.length + 1, 0, [], by omega, rfl, by omega, rfl, rfl, by simp, World.ownsRow_nil _ _ _ _, (fun _ h => by cases h), Below.refl _ _⟩
  case round =>
    obtain ⟨m, k, pre, hk, rfl, hm, HA, HK, h8, HW, HO, HB⟩ := hrel
    obtain ⟨m, rfl⟩ : ∃ m', m = m' + 1 := ⟨m - 1, by omega⟩
    by_cases hlt : (k : Int) < (bs.length : Int)
    · obtain ⟨b, off, rfl, _, _⟩ := HR.out.at 0 (by omega)
      have hcap := HR.out.cap (by omega)
      have hc : ¬ (cap : Int) = (k : Int) := by omega
      have hc' : ¬ cap = k := by omega
      have i1 : (k : Int) ≤ (bs.length : Int) := by omega
      have i2 : (k : Int) ≤ (cap : Int) := by omega
      have hRk : Reads wr (.slice (some ⟨b, off + k, none⟩) (bs.length - k) (cap - k)) (bs.drop k) := ((HR.out.below HB.out).drop (c := k) hk b off rfl).1 (by omega)
      have hdl : (bs.drop k).length = bs.length - k := by simp
      have hcall := refNext_any _ (bs.drop k) (by omega) _ hRk
      obtain ⟨q, hq⟩ := hid_ex (nxF (bs.drop k))
      rw [← hq.out] at hcall
      have HA2 : Hid (alF (bs.length + 1) bs = pre.map Fr.p ++ (if q.2.2 = 0 then (q.1, q.2.1) :: alF m ((bs.drop k).drop q.2.1) else [])) := by rw [HA.out, hq.out]; rfl
      have HOK : Hid (q.2.2 = 0 → 8 ≤ q.2.1 ∧ q.2.1 ≤ bs.length - k) := by
        intro h
        have := nxF_ok (l := bs.drop k) (by rw [← hq.out]; exact h)
        rw [← hq.out, hdl] at this
        exact this
      obtain ⟨D, z, E⟩ := q
      simp only at hcall HA2 HOK
      have HC : Hid _ := hcall
      clear hcall hq HA hRk hdl
      by_cases hE : E = 0
      · subst hE
        obtain ⟨f1, f2⟩ := HOK.out rfl
        have HA3 : Hid (alF (bs.length + 1) bs = pre.map Fr.p ++ (D, z) :: alF m (bs.drop (k + z))) := by rw [HA2.out, if_pos rfl, List.drop_drop]; rfl
        clear HA2 HOK
        go_wp2_with fail
        refine Calls.mono HC.out ?_
        rintro e w1 ⟨v1, rfl, HO1, hb1⟩
        have HB1 : Hid (Below w.heap.size w w1) := HB.out.trans (hb1.mono HB.out.size)
        have HW1 : Hid (w1.ownsRow w.heap.size 22 1 _ pre.length (pre.map Fr.v)) := row_kc HW.out (Kc.of_below hb1 HB.out.size)
        have HO2 : Hid (∀ x ∈ pre, Own w1 w.heap.size x.v x.D) := fun x hx => (HO.out x hx).below hb1
        have HP1 : Hid (Own w1 w.heap.size v1 D) := HO1.mono HB.out.size
        obtain ⟨a1, c1, rfl, _⟩ := HO1.form
        have hsz1 := HB1.out.size
        obtain ⟨i0, hi, hz0, hz1, hz2⟩ := info_parts infoL
        clear HC HO1 hb1 HB HW HO
        go_wp2_with (at_builtin; refine wpList_append_own _ rfl _ _ 93 rfl w.heap.size 22 i0 (.slice none 0 0) 1 24 Tryz.underlying93 hi hz0 hz1 hz2 rfl (by decide) _ _ _ rfl (HW1.out.alloc _) ⟨w1.heap.size, 0, none⟩ 1 1 [.slice a1 D.length c1] rfl rfl (cell_one_new _ _ _) (by simp [Value.oneCell']) (by unfold maxLen; omega) (by omega) (by simp; omega) ?_)
        intro v3 w3 hown3 hg3 _
        have HB3 : Hid (Below w.heap.size w w3) := HB1.out.trans (((Below.refl w.heap.size w1).alloc hsz1 _).grown hg3 (by simp; omega) (fun j ej => (World.ownsRow.lt HW1.out j ej).1))
        have HW3 : Hid (w3.ownsRow w.heap.size 22 1 v3 (pre ++ [(⟨.slice a1 D.length c1, D, z⟩ : Fr)]).length ((pre ++ [(⟨.slice a1 D.length c1, D, z⟩ : Fr)]).map Fr.v)) := by
          rw [List.length_append, List.map_append]; exact hown3
        have HO3 : Hid (∀ x ∈ pre ++ [(⟨.slice a1 D.length c1, D, z⟩ : Fr)], Own w3 w.heap.size x.v x.D) := by
          intro x hx
          rcases List.mem_append.1 hx with hx | hx
          · exact own_grown _ (HO2.out x hx) HW1.out (by decide) hg3
          · simp at hx; subst hx; exact own_grown _ HP1.out HW1.out (by decide) hg3
        have HA4 : Hid (alF (bs.length + 1) bs = (pre ++ [(⟨.slice a1 D.length c1, D, z⟩ : Fr)]).map Fr.p ++ alF m (bs.drop (k + z))) := by rw [HA3.out]; simp [Hid, Fr.p]
        have HK2 : Hid (ksum ((pre ++ [(⟨.slice a1 D.length c1, D, z⟩ : Fr)]).map Fr.p) = k + z) := by
          rw [List.map_append, ← HK.out]; exact ksum_snoc _ _
        have h82 : 8 * (pre ++ [(⟨.slice a1 D.length c1, D, z⟩ : Fr)]).length ≤ k + z := by simp; omega
        have H82 : Hid (8 * (pre ++ [(⟨.slice a1 D.length c1, D, z⟩ : Fr)]).length ≤ k + z) := h82
        clear hown3 hg3 HB1 HW1 HO2 HP1 HA3 HK h82 hi hz0 hz1 hz2
        go_wp2_with fail
        go_roundw
        case rel => exact ⟨m, k + z, _, by omega, by simp, by omega, HA4, HK2, H82.out, HW3, HO3, HB3⟩
        case measure => simp [intOf]; omega
      · have HA3 : Hid (alF (bs.length + 1) bs = pre.map Fr.p) := by rw [HA2.out, if_neg hE, List.append_nil]; rfl
        have jE : (E == 0) = false := by simpa using hE
        have jE2 : (E != 0) = true := by simpa using hE
        clear HA2 HOK hE
        go_wp2_with fail
        refine Calls.mono HC.out ?_
        rintro e w1 ⟨v1, rfl, HO1, hb1⟩
        have HB1 : Hid (Below w.heap.size w w1) := HB.out.trans (hb1.mono HB.out.size)
        have HW1 : Hid (w1.ownsRow w.heap.size 22 1 _ pre.length (pre.map Fr.v)) := row_kc HW.out (Kc.of_below hb1 HB.out.size)
        have HO2 : Hid (∀ x ∈ pre, Own w1 w.heap.size x.v x.D) := fun x hx => (HO.out x hx).below hb1
        clear HC HO1 hb1 HB HW HO
        go_wp2_with fail
        go_ret2
        exact ⟨_, pre, by rw [HA3.out, HK.out]; rfl, HA3.out.symm, HW1.out, HO2.out, HB1.out⟩
    · have hke : k = bs.length := by omega
      subst hke
      have HA3 : Hid (alF (bs.length + 1) bs = pre.map Fr.p) := by
        rw [HA.out, List.drop_length]
        simp [Hid, alF, nxF]
      clear HA
      go_wp2_with fail
      go_ret2
      exact ⟨_, by rw [HA3.out, HK.out]; rfl, pre, HA3.out.symm, HW.out, HO.out, HB.out⟩
end Go.Proofs.YtilbffgpniomcaaGreatDoor

/- Numbers of files, in digits: no program in sight. -/
namespace Go.Proofs.YtilbffgpniomcaaGreatDoor
open Go.Lib

theorem pu_app : ∀ (l r : List UInt8) (a u : Nat), parseUint10 a l = .ok u → parseUint10 a (l ++ r) = parseUint10 u r
  | [], r, a, u, h => by simp only [parseUint10] at h; injection h with h; rw [h]; rfl
  | c :: l, r, a, u, h => by
    rw [List.cons_append, parseUint10]
    rw [parseUint10] at h
    by_cases h1 : 48 ≤ c.toNat ∧ c.toNat ≤ 57
    · rw [if_pos h1] at h ⊢
      by_cases h2 : 1844674407370955162 ≤ a
      · rw [if_pos h2] at h; cases h
      · rw [if_neg h2] at h ⊢
        by_cases h3 : 18446744073709551616 ≤ a * 10 + (c.toNat - 48)
        · rw [if_pos h3] at h; cases h
        · rw [if_neg h3] at h ⊢
          exact pu_app l r _ u h
    · rw [if_neg h1] at h; cases h
theorem pu_one {d a : Nat} (hd : d < 10) (ha : a < 1000000000000000) : parseUint10 a [UInt8.ofNat (48 + d)] = .ok (a * 10 + d) := by
  have e : (UInt8.ofNat (48 + d)).toNat = 48 + d := by simp; omega
  unfold parseUint10
  rw [e, if_pos (by omega), if_neg (by omega), if_neg (by omega)]
  simp only [parseUint10]
  congr 1
  omega
theorem pu_dec : ∀ (n : Nat), n < 1000000000000000 → parseUint10 0 (decDigits n) = .ok n := by
  intro n
  induction n using Nat.strongRecOn with
  | _ n ih =>
    intro h
    by_cases h1 : n < 10
    · rw [decDigits_one h1, pu_one h1 (by omega)]; simp
    · rw [decDigits, dif_neg h1, pu_app _ _ _ _ (ih (n / 10) (by omega) (by omega)), pu_one (by omega) (by omega)]
      congr 1; omega
theorem dec_digit (n : Nat) : ∀ c ∈ decDigits n, 48 ≤ c.toNat ∧ c.toNat ≤ 57 := by
  induction n using Nat.strongRecOn with
  | _ n ih =>
    intro c hc
    by_cases h1 : n < 10
    · rw [decDigits_one h1] at hc
      simp at hc
      rw [hc]; simp; omega
    · rw [decDigits, dif_neg h1] at hc
      rcases List.mem_append.1 hc with hc | hc
      · exact ih (n / 10) (by omega) c hc
      · simp at hc; rw [hc]; simp; omega
theorem dec_pos (n : Nat) : 0 < (decDigits n).length := by rw [decDigits_length]; exact nDigits_pos n
theorem atoi_dec {n : Nat} (h : n < 1000000000000000) : atoiAll (decDigits n) = .ok (n : Int) := by
  have hp := pu_dec n h
  have h0 := dec_pos n
  have hd := dec_digit n
  cases e : decDigits n with
  | nil => rw [e] at h0; simp at h0
  | cons c r =>
    rw [e] at hp hd
    have hc := hd c (List.mem_cons_self ..)
    rw [atoiAll_plain c r (by omega) (by omega)]
    unfold parseMag
    rw [if_neg (by simp), hp]
    unfold signless
    simp only
    rw [if_neg (by omega)]
/-- A file's name. -/
def nmF (p : List UInt8) (n : Int) : List UInt8 := if 1 ≤ n ∧ n ≤ 1099511627776 then p ++ itoa n else []
theorem nmF_yes {p : List UInt8} {n : Int} (h1 : 1 ≤ n) (h2 : n ≤ 1099511627776) : nmF p n = p ++ decDigits n.toNat := by
  unfold nmF itoa; rw [if_pos ⟨h1, h2⟩, if_neg (by omega)]
theorem nmF_no {p : List UInt8} {n : Int} (h : ¬ (1 ≤ n ∧ n ≤ 1099511627776)) : nmF p n = [] := by unfold nmF; rw [if_neg h]
theorem dec_inj {m n : Nat} (hm : m < 1000000000000000) (hn : n < 1000000000000000) (h : decDigits m = decDigits n) : m = n := by
  have a := pu_dec m hm
  rw [h, pu_dec n hn] at a
  injection a with a
  exact a.symm
theorem nmF_inj {p : List UInt8} {m n : Int} (h1 : 1 ≤ m) (h2 : m ≤ 1099511627776) (h3 : 1 ≤ n) (h4 : n ≤ 1099511627776) (h : nmF p m = nmF p n) : m = n := by
  rw [nmF_yes h1 h2, nmF_yes h3 h4] at h
  have := dec_inj (by omega) (by omega) (List.append_cancel_left h)
  omega
theorem nD_le (k n : Nat) (h : n < 10 ^ (k + 1)) : nDigits n ≤ k + 1 := by
  induction k generalizing n with
  | zero => rw [nDigits_small (by simpa using h)]; omega
  | succ k ih =>
    by_cases h1 : n < 10
    · rw [nDigits_small h1]; omega
    · rw [nDigits_big h1]
      have := ih (n / 10) (by rw [Nat.pow_succ] at h; omega)
      omega
theorem dec_len {n : Nat} (h : n ≤ 1099511627776) : (decDigits n).length ≤ 13 := by
  rw [decDigits_length]; exact nD_le 12 n (by omega)
end Go.Proofs.YtilbffgpniomcaaGreatDoor

/- strconv at this program (written by mkwit.py, for one seat). -/
namespace Go.Proofs.YtilbffgpniomcaaGreatDoor
open Go.Shelf Go.Sort Go.RowKit Go.Lib

def witM_ren : Go.Shelf.Ren := ⟨fun | 171 => 74 | 243 => 95 | 246 => 118 | 283 => 134 | 284 => 135 | 285 => 136 | 286 => 137 | 129 => 115 | 317 => 143 | 318 => 144 | 319 => 145 | 320 => 146 | 337 => 148 | 338 => 149 | n => n, fun | 3 => 3 | 9 => 9 | 2 => 2 | 4 => 4 | 171 => 182 | 0 => 0 | 53 => 98 | 37 => 22 | 5 => 5 | 173 => 184 | 212 => 193 | 51 => 116 | 20 => 20 | 213 => 194 | 46 => 145 | 232 => 196 | 233 => 197 | n => n, fun | 17 => 0 | 18 => 1 | 19 => 2 | n => n⟩
theorem witM : Go.Proofs.LaysM.n171 Tryz.prog witM_ren := {
  mixed := by kernel_rfl
  f129 := Tryz.func115.trans (congrArg some (by kernel_rfl))
  f171 := Tryz.func74.trans (congrArg some (by kernel_rfl))
  f243 := Tryz.func95.trans (congrArg some (by kernel_rfl))
  f246 := Tryz.func118.trans (congrArg some (by kernel_rfl))
  f283 := Tryz.func134.trans (congrArg some (by kernel_rfl))
  f284 := Tryz.func135.trans (congrArg some (by kernel_rfl))
  f285 := Tryz.func136.trans (congrArg some (by kernel_rfl))
  f286 := Tryz.func137.trans (congrArg some (by kernel_rfl))
  f317 := Tryz.func143.trans (congrArg some (by kernel_rfl))
  f318 := Tryz.func144.trans (congrArg some (by kernel_rfl))
  f319 := Tryz.func145.trans (congrArg some (by kernel_rfl))
  f320 := Tryz.func146.trans (congrArg some (by kernel_rfl))
  f337 := Tryz.func148.trans (congrArg some (by kernel_rfl))
  f338 := Tryz.func149.trans (congrArg some (by kernel_rfl))
  t0 := Tryz.underlying0
  a0 := Tryz.isAgg0
  z0 := Tryz.sizeOf0
  v0 := Tryz.zeroValue0
  t2 := Tryz.underlying2
  a2 := Tryz.isAgg2
  z2 := Tryz.sizeOf2
  v2 := Tryz.zeroValue2
  t3 := Tryz.underlying3
  a3 := Tryz.isAgg3
  z3 := Tryz.sizeOf3
  v3 := Tryz.zeroValue3
  t4 := Tryz.underlying4
  a4 := Tryz.isAgg4
  z4 := Tryz.sizeOf4
  v4 := Tryz.zeroValue4
  t5 := Tryz.underlying5
  a5 := Tryz.isAgg5
  z5 := Tryz.sizeOf5
  v5 := Tryz.zeroValue5
  t9 := Tryz.underlying9
  a9 := Tryz.isAgg9
  z9 := Tryz.sizeOf9
  v9 := Tryz.zeroValue9
  t20 := Tryz.underlying20
  a20 := Tryz.isAgg20
  z20 := Tryz.sizeOf20
  v20 := Tryz.zeroValue20
  t37 := Tryz.underlying22
  a37 := Tryz.isAgg22
  z37 := Tryz.sizeOf22
  v37 := Tryz.zeroValue22
  t46 := Tryz.underlying145
  a46 := Tryz.isAgg145
  z46 := Tryz.sizeOf145
  v46 := Tryz.zeroValue145
  t51 := Tryz.underlying116
  a51 := Tryz.isAgg116
  z51 := Tryz.sizeOf116
  v51 := Tryz.zeroValue116
  t53 := Tryz.underlying98
  a53 := Tryz.isAgg98
  z53 := Tryz.sizeOf98
  v53 := Tryz.zeroValue98
  t171 := Tryz.underlying182
  a171 := Tryz.isAgg182
  z171 := Tryz.sizeOf182
  v171 := Tryz.zeroValue182
  t173 := Tryz.underlying184
  a173 := Tryz.isAgg184
  z173 := Tryz.sizeOf184
  v173 := Tryz.zeroValue184
  t212 := Tryz.underlying193
  a212 := Tryz.isAgg193
  z212 := Tryz.sizeOf193
  v212 := Tryz.zeroValue193
  t213 := Tryz.underlying194
  a213 := Tryz.isAgg194
  z213 := Tryz.sizeOf194
  t232 := Tryz.underlying196
  a232 := Tryz.isAgg196
  z232 := Tryz.sizeOf196
  v232 := Tryz.zeroValue196
  t233 := Tryz.underlying197
  a233 := Tryz.isAgg197
  z233 := Tryz.sizeOf197
  v233 := Tryz.zeroValue197
  g17 := by kernel_rfl
  g18 := by kernel_rfl
  g19 := by kernel_rfl
  i0 := by kernel_rfl
  i2 := by kernel_rfl
  i3 := by kernel_rfl
  i4 := by kernel_rfl
  i5 := by kernel_rfl
  i9 := by kernel_rfl
  i20 := by kernel_rfl
  i37 := by kernel_rfl
  i46 := by kernel_rfl
  i51 := by kernel_rfl
  i53 := by kernel_rfl
  i171 := by kernel_rfl
  i173 := by kernel_rfl
  i212 := by kernel_rfl
  i232 := by kernel_rfl
  i233 := by kernel_rfl
  m17 := by kernel_rfl
  m18 := by kernel_rfl
  m19 := by kernel_rfl }
def witS_ren : Go.Shelf.Ren := ⟨fun | 171 => 74 | 243 => 95 | 246 => 118 | 283 => 134 | 284 => 135 | 285 => 136 | 286 => 137 | 129 => 115 | 317 => 143 | 318 => 144 | 319 => 145 | 320 => 146 | 337 => 148 | 338 => 149 | n => n, fun | 3 => 3 | 9 => 9 | 2 => 2 | 4 => 4 | 171 => 182 | 0 => 0 | 53 => 98 | 37 => 22 | 5 => 5 | 173 => 184 | 212 => 193 | 51 => 116 | 20 => 20 | 213 => 194 | 46 => 145 | 232 => 196 | 233 => 197 | n => n, fun | 17 => 0 | 18 => 1 | 19 => 2 | n => n⟩
theorem witS : Go.Proofs.Lays.n171 Tryz.prog witS_ren := {
  mixed := by kernel_rfl
  f129 := Tryz.func115.trans (congrArg some (by kernel_rfl))
  f171 := Tryz.func74.trans (congrArg some (by kernel_rfl))
  f243 := Tryz.func95.trans (congrArg some (by kernel_rfl))
  f246 := Tryz.func118.trans (congrArg some (by kernel_rfl))
  f283 := Tryz.func134.trans (congrArg some (by kernel_rfl))
  f284 := Tryz.func135.trans (congrArg some (by kernel_rfl))
  f285 := Tryz.func136.trans (congrArg some (by kernel_rfl))
  f286 := Tryz.func137.trans (congrArg some (by kernel_rfl))
  f317 := Tryz.func143.trans (congrArg some (by kernel_rfl))
  f318 := Tryz.func144.trans (congrArg some (by kernel_rfl))
  f319 := Tryz.func145.trans (congrArg some (by kernel_rfl))
  f320 := Tryz.func146.trans (congrArg some (by kernel_rfl))
  f337 := Tryz.func148.trans (congrArg some (by kernel_rfl))
  f338 := Tryz.func149.trans (congrArg some (by kernel_rfl))
  t0 := Tryz.underlying0
  a0 := Tryz.isAgg0
  z0 := Tryz.sizeOf0
  v0 := Tryz.zeroValue0
  t2 := Tryz.underlying2
  a2 := Tryz.isAgg2
  z2 := Tryz.sizeOf2
  v2 := Tryz.zeroValue2
  t3 := Tryz.underlying3
  a3 := Tryz.isAgg3
  z3 := Tryz.sizeOf3
  v3 := Tryz.zeroValue3
  t4 := Tryz.underlying4
  a4 := Tryz.isAgg4
  z4 := Tryz.sizeOf4
  v4 := Tryz.zeroValue4
  t5 := Tryz.underlying5
  a5 := Tryz.isAgg5
  z5 := Tryz.sizeOf5
  v5 := Tryz.zeroValue5
  t9 := Tryz.underlying9
  a9 := Tryz.isAgg9
  z9 := Tryz.sizeOf9
  v9 := Tryz.zeroValue9
  t20 := Tryz.underlying20
  a20 := Tryz.isAgg20
  z20 := Tryz.sizeOf20
  v20 := Tryz.zeroValue20
  t37 := Tryz.underlying22
  a37 := Tryz.isAgg22
  z37 := Tryz.sizeOf22
  v37 := Tryz.zeroValue22
  t46 := Tryz.underlying145
  a46 := Tryz.isAgg145
  z46 := Tryz.sizeOf145
  v46 := Tryz.zeroValue145
  t51 := Tryz.underlying116
  a51 := Tryz.isAgg116
  z51 := Tryz.sizeOf116
  v51 := Tryz.zeroValue116
  t53 := Tryz.underlying98
  a53 := Tryz.isAgg98
  z53 := Tryz.sizeOf98
  v53 := Tryz.zeroValue98
  t171 := Tryz.underlying182
  a171 := Tryz.isAgg182
  z171 := Tryz.sizeOf182
  v171 := Tryz.zeroValue182
  t173 := Tryz.underlying184
  a173 := Tryz.isAgg184
  z173 := Tryz.sizeOf184
  v173 := Tryz.zeroValue184
  t212 := Tryz.underlying193
  a212 := Tryz.isAgg193
  z212 := Tryz.sizeOf193
  v212 := Tryz.zeroValue193
  t213 := Tryz.underlying194
  a213 := Tryz.isAgg194
  z213 := Tryz.sizeOf194
  t232 := Tryz.underlying196
  a232 := Tryz.isAgg196
  z232 := Tryz.sizeOf196
  v232 := Tryz.zeroValue196
  t233 := Tryz.underlying197
  a233 := Tryz.isAgg197
  z233 := Tryz.sizeOf197
  v233 := Tryz.zeroValue197
  g17 := by kernel_rfl
  g18 := by kernel_rfl
  g19 := by kernel_rfl }
theorem itoa_any (n : Int) (h0 : -9223372036854775808 ≤ n) (h1 : n ≤ 9223372036854775807) (w : World) (htab : Lib.TabIs Tryz.prog w "internal/strconv.uint64pow10" .u64 Lib.pow10Tab) :
    Calls Tryz.prog 74 #[.int .i64 n] w fun e w' => e = .returned (.string ⟨(Lib.itoa n).toArray⟩) ∧ ∃ k os, w' = Go.Sort.grow (w.drewN k) os := Any.strconv_Itoa witM n h0 h1 w htab
theorem itoa_small (i : Nat) (hi : i < 100) (w : World) :
    Calls Tryz.prog 74 #[.int .i64 (i : Int)] w fun e w' => e = .returned (.string ⟨(Lib.decDigits i).toArray⟩) ∧ w' = w := Any.strconv_Itoa_small witS i hi w
end Go.Proofs.YtilbffgpniomcaaGreatDoor

/- Names of files: wal.Name. -/
namespace Go.Proofs.YtilbffgpniomcaaGreatDoor
open Go.RowKit Go.Shelf

theorem ret_bool {a b : Bool} (h : a = b) : Ending.returned (.bool a) = .returned (.bool b) := by rw [h]
def isNo (n : Int) : Bool := decide (1 ≤ n ∧ n ≤ 1099511627776)
theorem isNo_iff {n : Int} : isNo n = true ↔ 1 ≤ n ∧ n ≤ 1099511627776 := by simp [isNo]
set_option maxRecDepth 100000 in
theorem isNumber_any (t : Int) (w : World) : Calls Tryz.prog 73 #[.int .i64 t] w fun e w' => e = .returned (.bool (isNo t)) ∧ w' = w := by
  by_cases h1 : 1 ≤ t
  · by_cases h2 : t ≤ 1099511627776
    · have HF : Hid (isNo t = true) := isNo_iff.2 ⟨h1, h2⟩
      go_enter Tryz.func73, Tryz.ntmps73
      go_wp2_with fail
      go_ret
      exact ⟨by rw [HF.out]; first | rfl | (exact ret_bool (by simp; omega)), rfl⟩
    · have HF : Hid (isNo t = false) := by unfold Hid isNo; simp; omega
      have d2 : decide (t ≤ 1099511627776) = false := decide_eq_false h2
      go_enter Tryz.func73, Tryz.ntmps73
      go_wp2_with fail
      go_ret
      exact ⟨by rw [HF.out]; first | rfl | (exact ret_bool (by assumption)), rfl⟩
  · have HF : Hid (isNo t = false) := by unfold Hid isNo; simp; omega
    have d1 : decide (1 ≤ t) = false := decide_eq_false h1
    go_enter Tryz.func73, Tryz.ntmps73
    go_wp2_with fail
    go_ret
    exact ⟨by rw [HF.out]; first | rfl | (exact ret_bool (by assumption)), rfl⟩
/-- The library's table. -/
def Tb (w : World) : Prop := Lib.TabIs Tryz.prog w "internal/strconv.uint64pow10" .u64 Lib.pow10Tab
theorem wit_grow {w w' : World} {k : Nat} {os : Array Obj} (h : w' = Go.Sort.grow (w.drewN k) os) : Below w.heap.size w w' := by
  subst h
  exact Go.Lib.below_grow _ w (Nat.le_refl _) k os
theorem itoa_nat (n : Int) (h1 : 1 ≤ n) (h2 : n ≤ 1099511627776) (w : World) (hT : n < 100 ∨ Tb w) :
    Calls Tryz.prog 74 #[.int .i64 n] w fun e w' => e = .returned (.string ⟨(Lib.decDigits n.toNat).toArray⟩) ∧ Below w.heap.size w w' := by
  by_cases h : n < 100
  · obtain ⟨m, rfl⟩ : ∃ m : Nat, n = (m : Int) := ⟨n.toNat, by omega⟩
    refine (itoa_small m (by omega) w).mono ?_
    rintro e w' ⟨rfl, rfl⟩
    exact ⟨rfl, Below.refl _ _⟩
  · refine (itoa_any n (by omega) (by omega) w (hT.resolve_left h)).mono ?_
    rintro e w' ⟨rfl, k, os, hw⟩
    refine ⟨?_, wit_grow hw⟩
    unfold Lib.itoa
    rw [if_neg (by omega)]
set_option maxRecDepth 100000 in
theorem name_any (p : List UInt8) (hp : p.length ≤ 1000000) (n : Int) (w : World) (hT : n < 100 ∨ Tb w) :
    Calls Tryz.prog 38 #[.string ⟨p.toArray⟩, .int .i64 n] w fun e w' => e = .returned (.string ⟨(nmF p n).toArray⟩) ∧ Below w.heap.size w w' := by
  have HT : Hid (n < 100 ∨ Tb w) := hT
  clear hT
  cases hq : isNo n with
  | false =>
    have HF : Hid (nmF p n = []) := nmF_no (fun h => by rw [isNo_iff.2 h] at hq; cases hq)
    go_enter Tryz.func38, Tryz.ntmps38
    go_wp2_with fail
    refine (isNumber_any n w).mono ?_
    rintro e w1 ⟨rfl, hw⟩
    subst w1
    rw [hq]
    go_wp2_with fail
    go_ret
    exact ⟨by rw [HF.out]; rfl, Below.refl _ _⟩
  | true =>
    obtain ⟨h1, h2⟩ := isNo_iff.1 hq
    have HF : Hid (nmF p n = p ++ Lib.decDigits n.toNat) := nmF_yes h1 h2
    have hl := dec_len (n := n.toNat) (by omega)
    obtain ⟨D, HD⟩ := hid_ex (Lib.decDigits n.toNat)
    have HC : Hid (Calls Tryz.prog 74 #[.int .i64 n] w fun e w' => e = .returned (.string ⟨D.toArray⟩) ∧ Below w.heap.size w w') := by rw [HD.out]; exact itoa_nat n h1 h2 w HT.out
    rw [← HD.out] at HF hl
    clear HD
    have HQ : Hid (isNo n = true) := hq
    clear hq
    go_enter Tryz.func38, Tryz.ntmps38
    go_wp2_with fail
    refine (isNumber_any n w).mono ?_
    rintro e w1 ⟨rfl, hw⟩
    subst w1
    rw [HQ.out]
    go_wp2_with fail
    refine HC.out.mono ?_
    rintro e w2 ⟨rfl, hb⟩
    go_wp2_with fail
    go_ret
    exact ⟨by rw [HF.out]; rfl, hb⟩
theorem Tb.below {w w' : World} (h : Tb w) (hb : Below w.heap.size w w') : Tb w' := by
  unfold Tb Lib.TabIs World.var? at *
  cases hg : Tryz.prog.globalNamed "internal/strconv.uint64pow10" with
  | none => rw [hg] at h; simp at h
  | some g =>
    rw [hg] at h
    simp only [Option.bind_some] at h ⊢
    cases hh : w.heap[g]? with
    | none => rw [hh] at h; simp at h
    | some o => rw [hb.block g (Array.getElem?_eq_some_iff.1 hh).1]; exact h
end Go.Proofs.YtilbffgpniomcaaGreatDoor
