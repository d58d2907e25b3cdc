/- The walk of FoldFactsParts. -/
import Derived.Test.YtbadjigfcncfcaaFP1
namespace Go.Proofs.Ytbadjigfcncfcaa
open Go.RowKit Go.Joins

set_option maxRecDepth 100000 in
set_option maxHeartbeats 8000000 in
theorem fparts_walk (R : Rl) (wm : Int) (v : Value) (fs : List Fa) (cut turn : Int) (w : World) (hL : Lies R w.heap.size w) (hF : FReads w v fs) :
    Calls Try.prog 7 #[.agg #[.slice R.a R.len R.cap, .int .i64 R.kp], .int .i64 wm, v, .int .i64 cut, .int .i64 turn] w fun e w' => e = .returned (.bool true) ∧ Below w.heap.size w w' := by
  have HF : Hid (FReads w v fs) := hF
  have HL : Hid (Lies R w.heap.size w) := hL
  obtain ⟨a, cap, rfl, hm1, hm2⟩ := hF.form
  unfold maxLen at hm2
  clear hF hL
  obtain ⟨w1, HW1⟩ := hid_ex (w.alloc (.cells #[.slice R.a R.len R.cap, .int .i64 R.kp] 33))
  have HB1 : Hid (Below w.heap.size w w1) := by rw [HW1.out]; exact new_below _ _
  have HX1 : Hid (RBox R w.heap.size w1) := by rw [HW1.out]; exact RBox.new R w _
  have HLI : Hid (∀ W, Below w1.heap.size w1 W → Lies R W.heap.size W ∧ RBox R w.heap.size W ∧ Below w.heap.size w W) := fun W hW => by
    have hb := HB1.out.trans (hW.mono HB1.out.size)
    exact ⟨HL.out.at hb, HX1.out.below hW, hb⟩
  go_enter Try.func7, Try.ntmps7
  go_wp2_with fail
  rw [← HW1.out]
  clear HW1
  refine (many15_any _ fs _ (HF.out.below HB1.out)).mono ?_
  rintro e w2 ⟨gg, rfl, hgg, hw2⟩
  rw [hw2]
  clear hw2 w2
  by_cases hge : gg = true ∨ cut < 0 ∨ (fs.length : Int) < cut
  · have HGO : Hid (gg = true ∨ (gg = false ∧ cut < 0) ∨ (gg = false ∧ ¬ cut < 0 ∧ (fs.length : Int) < cut)) := by
      rcases hge with h | h
      · exact .inl h
      · cases gg
        · by_cases h2 : cut < 0
          · exact .inr (.inl ⟨rfl, h2⟩)
          · exact .inr (.inr ⟨rfl, h2, by omega⟩)
        · exact .inl rfl
    clear hge hgg
    rcases HGO.out with rfl | ⟨rfl, h3⟩ | ⟨rfl, h3, h4⟩
    all_goals
      go_wp2_with fail
      refine (alive15_any _).mono ?_
      rintro e w2 ⟨rfl, hb2⟩
      have HB2 : Hid (Below w.heap.size w w2) := HB1.out.trans (hb2.mono HB1.out.size)
      clear hb2
      go_wp2_with fail
      go_ret
      exact ⟨rfl, HB2.out⟩
  · have hgf : gg = false := by cases gg; rfl; simp at hge
    obtain ⟨c, rfl⟩ : ∃ c : Nat, cut = (c : Int) := ⟨cut.toNat, by omega⟩
    have hc : c ≤ fs.length := by omega
    have hgt : ¬ (fs.length < c) := by omega
    have h60 : fs.length ≤ 60 := hgg hgf
    clear hgg hge
    subst hgf
    obtain ⟨r0, r1⟩ := HX1.out.at
    go_wp2_with fail
    refine (facts_any R wm _ fs _ (HLI.out _ (Below.refl _ _)).1 (HF.out.below HB1.out) (by omega) (sorts_all _ (by omega))).mono ?_
    rintro e w2 ⟨hb2, ⟨hne, rfl⟩ | ⟨_, _, rfl⟩ | ⟨hz, hall, v2, rfl, hr2⟩⟩
    · have hb0 : (fE R 0 wm == 0) = false := by simp [hne]
      have HB2 : Hid (Below w.heap.size w w2) := HB1.out.trans (hb2.mono HB1.out.size)
      clear hne hb2 r0 r1
      generalize fE R 0 wm = rr at *
      go_wp2_with fail
      refine (alive15_any _).mono ?_
      rintro e w3 ⟨rfl, hb3⟩
      have HB3 : Hid (Below w.heap.size w w3) := HB2.out.trans (hb3.mono HB2.out.size)
      clear hb3
      go_wp2_with fail
      go_ret
      exact ⟨rfl, HB3.out⟩
    · have HB2 : Hid (Below w.heap.size w w2) := HB1.out.trans (hb2.mono HB1.out.size)
      clear hb2 r0 r1
      go_wp2_with fail
      refine (alive15_any _).mono ?_
      rintro e w3 ⟨rfl, hb3⟩
      have HB3 : Hid (Below w.heap.size w w3) := HB2.out.trans (hb3.mono HB2.out.size)
      clear hb3
      go_wp2_with fail
      go_ret
      exact ⟨rfl, HB3.out⟩
    · have HR : Hid (RightP R) := (fE_ok hz).1
      have HFE : Hid (fE R 0 wm = 0) := hz
      have HALL : Hid (fs.all mayF = true) := hall
      have HB2 : Hid (Below w1.heap.size w1 w2) := hb2
      obtain ⟨A, HA⟩ := hid_ex (foldF R wm (fs.map (fcE R)))
      rw [← HA.out] at hr2
      have HE2 : Hid (EReads w2 v2 A) := hr2
      obtain ⟨la, lc, rfl, hla, hlb⟩ := hr2.form
      unfold maxLen at hlb
      obtain ⟨t, ht⟩ : ∃ t : Nat, bits .and .i64 turn 1023 = (t : Int) := ⟨(turn % 1024).toNat, by rw [i64_and1023]; omega⟩
      have ht2 : t ≤ 1023 := by rw [i64_and1023] at ht; omega
      obtain ⟨i0, hif, hz0, hz1, hz2⟩ := info_parts infoFa
      obtain ⟨an, Han⟩ := hid_ex A.length
      rw [← Han.out] at HE2 hla ⊢
      clear hb2 hz hall hr2 r0 r1
      go_wp2_with fail
      go_loopw [13, 14] (fun mv i wr => ∃ k : Nat, k ≤ fs.length ∧ i = .int .i64 (k : Int) ∧ Hid (FOwn w wr w2.heap.size mv ((rotl fs t).take k)) ∧ Hid (Below w2.heap.size w2 wr)) (fun _ i _ => fs.length - (intOf i).toNat)
      case atStart => exact ⟨0, by omega, rfl, FOwn.nil _ _ _, Below.refl _ _⟩
      case round =>
        obtain ⟨k, hk, rfl, HO, HW⟩ := hrel
        by_cases hlt : k < fs.length
        · have hmod : (k + t) % fs.length < fs.length := Nat.mod_lt _ (by omega)
          obtain ⟨rb, ro, rfl, hrb, d1, hsr, hfb⟩ := HF.out.at hmod
          have HBr : Hid (Below w.heap.size w wr) := (HLI.out _ (HB2.out.trans (HW.out.mono HB2.out.size))).2.2
          have hm1 : (0 : Int) ≤ ((k : Int) + (t : Int)) % (fs.length : Int) := Int.emod_nonneg _ (by omega)
          have hm2 : ((k : Int) + (t : Int)) % (fs.length : Int) < (fs.length : Int) := Int.emod_lt_of_pos _ (by omega)
          have HST : Hid _ := rotl_step (L := fs) (t := t) hlt
          have hlk : ((rotl fs t).take k).length = k := by rw [List.length_take, rotl_len]; omega
          obtain ⟨X, HX⟩ := hid_ex fs[(k + t) % fs.length]
          rw [← HX.out] at d1 hsr hfb HST
          obtain ⟨va, vc, hvd, _⟩ := hsr.form
          obtain ⟨dn, Hdn⟩ := hid_ex X.D.length
          rw [← Hdn.out] at hvd
          have q := fun i (hi : i < 3) => (HBr.out.cell (p := ⟨rb, ro + (k + t) % fs.length * 3 + i, none⟩) hrb).trans (d1 i hi)
          have c0 := q 0 (by decide)
          have c1 := q 1 (by decide)
          have c2 := q 2 (by decide)
          simp only [c3, List.getElem_cons_zero, List.getElem_cons_succ, Nat.add_zero] at c0 c1 c2
          rw [hvd] at c0
          have hown := HO.out.r
          have HOS : Hid _ := HO.out.s
          rw [hlk] at hown
          obtain ⟨am, cm, hmf⟩ := HO.out.form
          rw [hlk] at hmf
          subst hmf
          have hsz := HW.out.size
          obtain ⟨v6, w6, hrun, hown6, hgrow6, _⟩ := run_append_own (P := Try.prog) (wr.alloc (.cells #[.slice va dn vc, .int .i64 X.t, .int .i64 X.x] 47)) w2.heap.size 42 42 47 i0 _ 3 40 Try.underlying42 hif hz0 hz1 hz2 rfl (by decide) (.slice am k cm) k _ (hown.alloc _) ⟨wr.heap.size, 0, none⟩ 1 1 [.slice va dn vc, .int .i64 X.t, .int .i64 X.x] rfl (news7 wr _) (by simp [Value.oneCell']) (by unfold maxLen; omega) (by omega) (al_ok hsz)
          have HO6 : Hid (FOwn w w6 w2.heap.size v6 ((rotl fs t).take (k + 1))) := FOwn.snoc HST.out (by rw [hlk]; unfold c3 at hown6 ⊢; rw [hvd]; exact hown6) HOS.out hsr hfb
          have HW6 : Hid (Below w2.heap.size w2 w6) := (HW.out.alloc hsz _).grown hgrow6 (al_ok hsz) (own_block hown)
          clear d1 hsr hfb q hmod HST hlk hown hown6 hgrow6 HO HOS Hdn HX HBr hvd
          go_wp2_with (at_builtin; refine wpList_app_run rfl _ _ _ _ rfl rfl _ _ _ rfl rfl hrun ?_)
          clear c0 c1 c2 hm1 hm2 hrun
          (try go_wp2_with fail)
          go_roundw
          case rel => exact ⟨k + 1, by omega, by go_num, HO6, HW6⟩
          case measure => simp [intOf]; omega
        · obtain rfl : k = fs.length := by omega
          have HBr : Hid (Below w1.heap.size w1 wr) := HB2.out.trans (HW.out.mono HB2.out.size)
          have HM : Hid (FReads wr u13 (rotl fs t)) := by
            have h := HO.out
            rw [List.take_of_length_le (by rw [rotl_len]; omega)] at h
            exact h.reads (HLI.out _ HBr.out).2.2
          have HPR : Hid _ := rotl_perm fs t
          have HAm : Hid ((rotl fs t).all mayF = true) := all_sub HALL.out (fun f hf => HPR.out.mem_iff.1 hf)
          have HPA : Hid (A = foldF R wm ((rotl fs t).map (fcE R))) := by
            rw [HA.out]; exact perm_fold (HPR.out.symm.map _) (fcE_gd R fs)
          have HP2 : Hid _ := fparts_pure HR.out (wm := wm) HALL.out c
          have HEr : Hid (EReads wr (.slice la an lc) A) := HE2.out.below HW.out
          have hml : (rotl fs t).length ≤ 60 := by rw [rotl_len]; exact h60
          obtain ⟨ma, mc, rfl, _⟩ := HM.out.form
          obtain ⟨mn, Hmn⟩ := hid_ex (rotl fs t).length
          rw [← Hmn.out] at HM ⊢
          clear HO HW HE2 hif hz0 hz1 hz2 HPR
          obtain ⟨r0, r1⟩ := (HLI.out _ HBr.out).2.1.at
          go_wp2_with fail
          refine (facts_ok R wm _ (rotl fs t) _ (HLI.out _ HBr.out).1 HM.out hml HFE.out HAm.out A HPA.out).mono ?_
          rintro e w3 ⟨ba, bc, rfl, hE3, hb3⟩
          rw [← Han.out] at hE3 ⊢
          have HE3 : Hid _ := hE3
          have HB3 : Hid (Below w1.heap.size w1 w3) := HBr.out.trans (hb3.mono HBr.out.size)
          have HEl3 : Hid (EReads w3 (.slice la an lc) A) := HEr.out.below hb3
          obtain ⟨a4, f4, hs4, hr4⟩ := fsl_upto HF.out hc
          obtain ⟨a5, f5, hs5, hr5⟩ := fsl_from HF.out hc
          have HR4 : Hid _ := hr4
          have HR5 : Hid _ := hr5
          have hl4 : (fs.take c).length ≤ 60 := by rw [List.length_take]; omega
          have hl5 : (fs.drop c).length ≤ 60 := by rw [List.length_drop]; omega
          have HA4 : Hid _ := all_sub HALL.out (gs := fs.take c) (fun f hf => List.mem_of_mem_take hf)
          have HA5 : Hid _ := all_sub HALL.out (gs := fs.drop c) (fun f hf => List.mem_of_mem_drop hf)
          obtain ⟨P, HP⟩ := hid_ex (foldF R wm ((fs.take c).map (fcE R)))
          obtain ⟨Q, HQ⟩ := hid_ex (foldF R wm ((fs.drop c).map (fcE R)))
          rw [← HP.out, ← HQ.out, ← HA.out] at HP2
          clear hE3 hb3 hr4 hr5 HBr HEr HM hml r0 r1
          go_wp2_with fail
          refine wp_region_noPanic ?_
          refine wp_region_held_drew (S := (fun w' => Below w3.heap.size w3 w')) (by kernel_rfl) ?_ (fun hHeld => ?_)
          · exact (Below.refl _ _).drew
          refine wpAnyH_take (i := 0) (v := .agg #[.slice R.a R.len R.cap, .int .i64 R.kp]) rfl (by kernel_rfl) (by kernel_rfl) (by kernel_rfl) (fun _ _ _ h => h) (Or.inl ⟨by rfl, ?_⟩) (by assumption) ?_
          · (intro w1 hSw; (try dsimp only at hSw); obtain ⟨r0, r1⟩ := (HLI.out _ (HB3.out.trans (hSw.mono HB3.out.size))).2.1.at; go_simp)
          simp only [List.getElem_toArray, List.getElem_cons_zero, Act.put, List.setIfInBounds_toArray, List.set_cons_zero, List.set_cons_succ]
          refine wpAnyH_take (i := 1) (v := .int .i64 wm) rfl (by kernel_rfl) (by kernel_rfl) (by kernel_rfl) (fun _ _ _ h => h) (Or.inl ⟨by rfl, ?_⟩) (by assumption) ?_
          · (intro w1 hSw; (try dsimp only at hSw); go_simp)
          simp only [List.getElem_toArray, List.getElem_cons_succ, List.getElem_cons_zero, Act.put, List.setIfInBounds_toArray, List.set_cons_zero, List.set_cons_succ]
          refine wpAnyH_take (i := 2) (v := .slice a fs.length cap) rfl (by kernel_rfl) (by kernel_rfl) (by kernel_rfl) (fun _ _ _ h => h) (Or.inl ⟨by rfl, ?_⟩) (by assumption) ?_
          · (intro w1 hSw; (try dsimp only at hSw); go_simp)
          simp only [List.getElem_toArray, List.getElem_cons_succ, List.getElem_cons_zero, Act.put, List.setIfInBounds_toArray, List.set_cons_zero, List.set_cons_succ]
          refine wpAnyH_take (i := 3) (v := .int .i64 (c : Int)) rfl (by kernel_rfl) (by kernel_rfl) (by kernel_rfl) (fun _ _ _ h => h) (Or.inl ⟨by rfl, ?_⟩) (by assumption) ?_
          · (intro w1 hSw; (try dsimp only at hSw); go_simp)
          simp only [List.getElem_toArray, List.getElem_cons_succ, List.getElem_cons_zero, Act.put, List.setIfInBounds_toArray, List.set_cons_zero, List.set_cons_succ]
          refine wpAnyH_take (i := 4) (v := .slice a4 c f4) rfl (by kernel_rfl) (by kernel_rfl) (by kernel_rfl) (fun _ _ _ h => h) (Or.inl ⟨by rfl, ?_⟩) (by assumption) ?_
          · (intro w1 hSw; (try dsimp only at hSw); go_simp)
          simp only [List.getElem_toArray, List.getElem_cons_succ, List.getElem_cons_zero, Act.put, List.setIfInBounds_toArray, List.set_cons_zero, List.set_cons_succ]
          refine wpAnyH_ready (rs := [5]) (by kernel_rfl) (by simp) ?_
          refine AllReadyH.cons (o := _) rfl (fun K hK => ?_) AllReadyH.nil
          go_simp
          refine (facts_ok R wm _ (fs.take c) _ (HLI.out _ HB3.out.drew).1 (FReads.below HR4.out (HLI.out _ HB3.out.drew).2.2) hl4 HFE.out HA4.out P HP.out).mono ?_
          rintro e w4 ⟨pa, pc, rfl, hE4, hb4'⟩
          have hb4 : Below w3.heap.size w3 w4 := (Below.refl w3.heap.size w3).drew.trans hb4'
          refine hK.out _ _ ?_ (fun hHeld => ?_)
          · exact hb4
          clear hK K
          obtain ⟨pn, Hpn⟩ := hid_ex P.length
          rw [← Hpn.out] at hE4
          simp only [← Hpn.out]
          refine wpAnyH_take (i := 6) (v := .tuple #[.slice pa pn pc, .int .i64 0]) rfl (by kernel_rfl) (by kernel_rfl) (by kernel_rfl) (fun _ _ _ h => h) (Or.inl ⟨by rfl, ?_⟩) (by assumption) ?_
          · (intro w1 hSw; (try dsimp only at hSw); go_simp)
          simp only [List.getElem_toArray, List.getElem_cons_succ, List.getElem_cons_zero, Act.put, List.setIfInBounds_toArray, List.set_cons_zero, List.set_cons_succ]
          refine wpAnyH_take (i := 7) (v := .slice pa pn pc) rfl (by kernel_rfl) (by kernel_rfl) (by kernel_rfl) (fun _ _ _ h => h) (Or.inl ⟨by rfl, ?_⟩) (by assumption) ?_
          · (intro w1 hSw; (try dsimp only at hSw); go_simp)
          simp only [List.getElem_toArray, List.getElem_cons_succ, List.getElem_cons_zero, Act.put, List.setIfInBounds_toArray, List.set_cons_zero, List.set_cons_succ]
          refine wpAnyH_take (i := 8) (v := .int .i64 0) rfl (by kernel_rfl) (by kernel_rfl) (by kernel_rfl) (fun _ _ _ h => h) (Or.inl ⟨by rfl, ?_⟩) (by assumption) ?_
          · (intro w1 hSw; (try dsimp only at hSw); go_simp)
          simp only [List.getElem_toArray, List.getElem_cons_succ, List.getElem_cons_zero, Act.put, List.setIfInBounds_toArray, List.set_cons_zero, List.set_cons_succ]
          refine wpAnyH_take (i := 9) (v := .slice pa pn pc) rfl (by kernel_rfl) (by kernel_rfl) (by kernel_rfl) (fun _ _ _ h => h) (Or.inl ⟨by rfl, ?_⟩) (by assumption) ?_
          · (intro w1 hSw; (try dsimp only at hSw); go_simp)
          simp only [List.getElem_toArray, List.getElem_cons_succ, List.getElem_cons_zero, Act.put, List.setIfInBounds_toArray, List.set_cons_zero, List.set_cons_succ]
          refine wpAnyH_take (i := 10) (v := .int .i64 0) rfl (by kernel_rfl) (by kernel_rfl) (by kernel_rfl) (fun _ _ _ h => h) (Or.inl ⟨by rfl, ?_⟩) (by assumption) ?_
          · (intro w1 hSw; (try dsimp only at hSw); go_simp)
          simp only [List.getElem_toArray, List.getElem_cons_succ, List.getElem_cons_zero, Act.put, List.setIfInBounds_toArray, List.set_cons_zero, List.set_cons_succ]
          clear hHeld hb4'
          refine wpAnyH_done (by kernel_rfl) ?_ _
          refine NoPanic.normal ?_
          have HE4 : Hid _ := hE4
          have HB4 : Hid (Below w1.heap.size w1 w4) := HB3.out.trans (hb4.mono HB3.out.size)
          have HEl4 : Hid (EReads w4 (.slice la an lc) A) := HEl3.out.below hb4
          have HEm4 : Hid (EReads w4 (.slice ba an bc) A) := EReads.below HE3.out hb4
          clear hE4 hb4 HB3 HEl3 HE3
          go_wp2_with fail
          refine wp_region_noPanic ?_
          refine wp_region_held_drew (S := (fun w' => Below w4.heap.size w4 w')) (by kernel_rfl) ?_ (fun hHeld => ?_)
          · exact (Below.refl _ _).drew
          refine wpAnyH_take (i := 0) (v := .agg #[.slice R.a R.len R.cap, .int .i64 R.kp]) rfl (by kernel_rfl) (by kernel_rfl) (by kernel_rfl) (fun _ _ _ h => h) (Or.inl ⟨by rfl, ?_⟩) (by assumption) ?_
          · (intro w1 hSw; (try dsimp only at hSw); obtain ⟨r0, r1⟩ := (HLI.out _ (HB4.out.trans (hSw.mono HB4.out.size))).2.1.at; go_simp)
          simp only [List.getElem_toArray, List.getElem_cons_zero, Act.put, List.setIfInBounds_toArray, List.set_cons_zero, List.set_cons_succ]
          refine wpAnyH_take (i := 1) (v := .int .i64 wm) rfl (by kernel_rfl) (by kernel_rfl) (by kernel_rfl) (fun _ _ _ h => h) (Or.inl ⟨by rfl, ?_⟩) (by assumption) ?_
          · (intro w1 hSw; (try dsimp only at hSw); go_simp)
          simp only [List.getElem_toArray, List.getElem_cons_succ, List.getElem_cons_zero, Act.put, List.setIfInBounds_toArray, List.set_cons_zero, List.set_cons_succ]
          refine wpAnyH_take (i := 2) (v := .slice a fs.length cap) rfl (by kernel_rfl) (by kernel_rfl) (by kernel_rfl) (fun _ _ _ h => h) (Or.inl ⟨by rfl, ?_⟩) (by assumption) ?_
          · (intro w1 hSw; (try dsimp only at hSw); go_simp)
          simp only [List.getElem_toArray, List.getElem_cons_succ, List.getElem_cons_zero, Act.put, List.setIfInBounds_toArray, List.set_cons_zero, List.set_cons_succ]
          refine wpAnyH_take (i := 3) (v := .int .i64 (c : Int)) rfl (by kernel_rfl) (by kernel_rfl) (by kernel_rfl) (fun _ _ _ h => h) (Or.inl ⟨by rfl, ?_⟩) (by assumption) ?_
          · (intro w1 hSw; (try dsimp only at hSw); go_simp)
          simp only [List.getElem_toArray, List.getElem_cons_succ, List.getElem_cons_zero, Act.put, List.setIfInBounds_toArray, List.set_cons_zero, List.set_cons_succ]
          refine wpAnyH_take (i := 4) (v := .slice a5 (fs.length - c) f5) rfl (by kernel_rfl) (by kernel_rfl) (by kernel_rfl) (fun _ _ _ h => h) (Or.inl ⟨by rfl, ?_⟩) (by assumption) ?_
          · (intro w1 hSw; (try dsimp only at hSw); go_simp)
          simp only [List.getElem_toArray, List.getElem_cons_succ, List.getElem_cons_zero, Act.put, List.setIfInBounds_toArray, List.set_cons_zero, List.set_cons_succ]
          refine wpAnyH_ready (rs := [5]) (by kernel_rfl) (by simp) ?_
          refine AllReadyH.cons (o := _) rfl (fun K hK => ?_) AllReadyH.nil
          go_simp
          refine (facts_ok R wm _ (fs.drop c) _ (HLI.out _ HB4.out.drew).1 (FReads.below HR5.out (HLI.out _ HB4.out.drew).2.2) hl5 HFE.out HA5.out Q HQ.out).mono ?_
          rintro e w5 ⟨qa, qc, rfl, hE5, hb5'⟩
          have hb5 : Below w4.heap.size w4 w5 := (Below.refl w4.heap.size w4).drew.trans hb5'
          refine hK.out _ _ ?_ (fun hHeld => ?_)
          · exact hb5
          clear hK K
          obtain ⟨qn, Hqn⟩ := hid_ex Q.length
          rw [← Hqn.out] at hE5
          simp only [← Hqn.out]
          refine wpAnyH_take (i := 6) (v := .tuple #[.slice qa qn qc, .int .i64 0]) rfl (by kernel_rfl) (by kernel_rfl) (by kernel_rfl) (fun _ _ _ h => h) (Or.inl ⟨by rfl, ?_⟩) (by assumption) ?_
          · (intro w1 hSw; (try dsimp only at hSw); go_simp)
          simp only [List.getElem_toArray, List.getElem_cons_succ, List.getElem_cons_zero, Act.put, List.setIfInBounds_toArray, List.set_cons_zero, List.set_cons_succ]
          refine wpAnyH_take (i := 7) (v := .slice qa qn qc) rfl (by kernel_rfl) (by kernel_rfl) (by kernel_rfl) (fun _ _ _ h => h) (Or.inl ⟨by rfl, ?_⟩) (by assumption) ?_
          · (intro w1 hSw; (try dsimp only at hSw); go_simp)
          simp only [List.getElem_toArray, List.getElem_cons_succ, List.getElem_cons_zero, Act.put, List.setIfInBounds_toArray, List.set_cons_zero, List.set_cons_succ]
          refine wpAnyH_take (i := 8) (v := .int .i64 0) rfl (by kernel_rfl) (by kernel_rfl) (by kernel_rfl) (fun _ _ _ h => h) (Or.inl ⟨by rfl, ?_⟩) (by assumption) ?_
          · (intro w1 hSw; (try dsimp only at hSw); go_simp)
          simp only [List.getElem_toArray, List.getElem_cons_succ, List.getElem_cons_zero, Act.put, List.setIfInBounds_toArray, List.set_cons_zero, List.set_cons_succ]
          refine wpAnyH_take (i := 9) (v := .slice qa qn qc) rfl (by kernel_rfl) (by kernel_rfl) (by kernel_rfl) (fun _ _ _ h => h) (Or.inl ⟨by rfl, ?_⟩) (by assumption) ?_
          · (intro w1 hSw; (try dsimp only at hSw); go_simp)
          simp only [List.getElem_toArray, List.getElem_cons_succ, List.getElem_cons_zero, Act.put, List.setIfInBounds_toArray, List.set_cons_zero, List.set_cons_succ]
          refine wpAnyH_take (i := 10) (v := .int .i64 0) rfl (by kernel_rfl) (by kernel_rfl) (by kernel_rfl) (fun _ _ _ h => h) (Or.inl ⟨by rfl, ?_⟩) (by assumption) ?_
          · (intro w1 hSw; (try dsimp only at hSw); go_simp)
          simp only [List.getElem_toArray, List.getElem_cons_succ, List.getElem_cons_zero, Act.put, List.setIfInBounds_toArray, List.set_cons_zero, List.set_cons_succ]
          clear hHeld hb5'
          refine wpAnyH_done (by kernel_rfl) ?_ _
          refine NoPanic.normal ?_
          have HE5 : Hid _ := hE5
          have HB5 : Hid (Below w1.heap.size w1 w5) := HB4.out.trans (hb5.mono HB4.out.size)
          have HEl5 : Hid (EReads w5 (.slice la an lc) A) := HEl4.out.below hb5
          have HEm5 : Hid (EReads w5 (.slice ba an bc) A) := HEm4.out.below hb5
          have HEp5 : Hid (EReads w5 (.slice pa pn pc) P) := EReads.below HE4.out hb5
          clear hE5 hb5 HB4 HEl4 HEm4 HE4
          go_wp2_with fail
          obtain ⟨w6, HW6⟩ := hid_ex (w5.alloc (.cells #[.slice pa pn pc, .slice qa qn qc] 25))
          have HR6 : Hid (RReads w6 (.slice (some ⟨w5.heap.size, 0, none⟩) 2 2) [P, Q]) := by rw [HW6.out]; exact two_lists HEp5.out HE5.out
          have hb6 : Below w5.heap.size w5 w6 := by rw [HW6.out]; exact (Below.refl w5.heap.size w5).alloc (Nat.le_refl _) _
          have HB6 : Hid (Below w1.heap.size w1 w6) := HB5.out.trans (hb6.mono HB5.out.size)
          have HEl6 : Hid (EReads w6 (.slice la an lc) A) := HEl5.out.below hb6
          have HEm6 : Hid (EReads w6 (.slice ba an bc) A) := HEm5.out.below hb6
          rw [← HW6.out]
          clear hb6 HW6 HB5 HEl5 HEm5 HEp5 HE5
          refine (all_ok _ [P, Q] _ HR6.out (by simp) (fun r hr => by have := (HP2.out.2.2 r hr).1; omega) (fun r hr x hx => by have := (HP2.out.2.2 r hr).2 x hx; omega) HP2.out.1 A HP2.out.2.1.symm).mono ?_
          rintro e w7 ⟨ta, tc, rfl, hE7, hb7⟩
          rw [← Han.out] at hE7 ⊢
          have HE7 : Hid _ := hE7
          have HB7 : Hid (Below w1.heap.size w1 w7) := HB6.out.trans (hb7.mono HB6.out.size)
          have HEl7 : Hid (EReads w7 (.slice la an lc) A) := HEl6.out.below hb7
          have HEm7 : Hid (EReads w7 (.slice ba an bc) A) := HEm6.out.below hb7
          clear hE7 hb7 HB6 HEl6 HEm6 HP2
          go_wp2_with fail
          refine (alive15_any _).mono ?_
          rintro e w8 ⟨rfl, hb8⟩
          have HB8 : Hid (Below w1.heap.size w1 w8) := HB7.out.trans (hb8.mono HB7.out.size)
          have HEl8 : Hid (ERd w8 (.slice la an lc) A) := (HEl7.out.below hb8).rd
          have HEm8 : Hid (ERd w8 (.slice ba an bc) A) := (HEm7.out.below hb8).rd
          have HEt8 : Hid (ERd w8 (.slice ta an tc) A) := (EReads.below HE7.out hb8).rd
          clear hb8 HB7 HEl7 HEm7 HE7
          go_wp2_with fail
          refine (same_true _ _ A _ HEl8.out HEm8.out).mono ?_
          rintro e w9 ⟨rfl, hb9⟩
          have HB9 : Hid (Below w1.heap.size w1 w9) := HB8.out.trans (hb9.mono HB8.out.size)
          have HEl9 : Hid (ERd w9 (.slice la an lc) A) := HEl8.out.below hb9
          have HEt9 : Hid (ERd w9 (.slice ta an tc) A) := HEt8.out.below hb9
          clear hb9 HB8 HEl8 HEm8 HEt8
          go_wp2_with fail
          refine (same_true _ _ A _ HEl9.out HEt9.out).mono ?_
          rintro e w10 ⟨rfl, hb10⟩
          have HBE : Hid (Below w.heap.size w w10) := (HLI.out _ (HB9.out.trans (hb10.mono HB9.out.size))).2.2
          clear hb10 HB9 HEl9 HEt9
          go_wp2_with fail
          go_ret
          exact ⟨rfl, HBE.out⟩
end Go.Proofs.Ytbadjigfcncfcaa
