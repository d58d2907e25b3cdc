/- In which order rows stand is of no matter, nor whether some are put together ahead of the others. -/
import Derived.Test.YtbadjigfcncfcaaMO1
import Derived.Laws.AppendOwn
namespace Go.Proofs.Ytbadjigfcncfcaa
open Go.RowKit Go.Joins

/-- What the rows' guard gives. -/
structure OkRs (rs : List (List En)) : Prop where
  l1 : rs.length ≤ 10000
  l2 : ∀ r ∈ rs, r.length ≤ 100000
  l3 : ∀ r ∈ rs, ∀ x ∈ r, x.1.length ≤ 100000
theorem okRs_of {rs : List (List En)} (h : rs.length ≤ 20 ∧ ∀ r ∈ rs, okRow r) : OkRs rs := ⟨by omega, fun r hr => by have := (h.2 r hr).1; omega, fun r hr x hx => by have := (h.2 r hr).2 x hx; omega⟩
theorem all_sml {rs : List (List En)} (h : rs.length ≤ 20 ∧ ∀ r ∈ rs, okRow r) (h0 : rowsF rs = 0) (hc : ∀ r ∈ rs, ∀ x ∈ r, CnOk x.2) : (allF rs).length ≤ 100000 ∧ ∀ x ∈ allF rs, x.1.length ≤ 100000 := by
  constructor
  · have h1 := grpG_len (seqF rs)
    have h2 : (seqF rs).length ≤ rs.length * 60 := by
      unfold seqF
      rw [(srtG_perm _).length_eq]
      have : ∀ (rs : List (List En)) (i : Nat), (∀ r ∈ rs, okRow r) → (tagsF i rs).length ≤ rs.length * 60 := by
        intro rs
        induction rs with
        | nil => intro i _; simp [tagsF]
        | cons r rs ih =>
          intro i hr
          have h3 := ih (i + 1) (fun r' hr' => hr r' (List.mem_cons_of_mem _ hr'))
          have h4 := (hr r (List.mem_cons_self ..)).1
          unfold tagsF
          rw [List.length_append]
          unfold tagP
          simp
          omega
      exact this rs 0 h.2
    have h5 := h.1
    unfold allF
    omega
  · intro x hx
    obtain ⟨r, hr, y, hy, e⟩ := allF_key h0 hc x hx
    have := (h.2 r hr).2 y hy
    rw [e]; omega
set_option maxRecDepth 100000 in
set_option maxHeartbeats 4000000 in
theorem order_walk0 (v : Value) (rs : List (List En)) (turn cut : Int) (w : World) (hR : RReads w v rs) (hS : ∀ r ∈ rs, ∀ x ∈ r, -170141183460469231731687303715884105728 ≤ x.2.s ∧ x.2.s < 170141183460469231731687303715884105728) : Calls Try.prog 3 #[v, .int .i64 turn, .int .i64 cut] w fun e w' => e = .returned (.bool true) ∧ Below w.heap.size w w' := by
  have HR : Hid (RReads w v rs) := hR
  have HCN : Hid _ := rReads_cn hR
  have HS : Hid _ := hS
  obtain ⟨av, cv, rfl, hcv1, hcv2, _⟩ := hR
  unfold maxLen at hcv2
  clear hS
  go_enter Try.func3, Try.ntmps3
  go_wp2_with fail
  refine (great_any _ rs _ HR.out).mono ?_
  rintro e w1 ⟨gg, rfl, hgg, hw1⟩
  subst hw1
  by_cases hge : gg = true ∨ cut < 0 ∨ (rs.length : Int) < cut
  · have HGO : Hid (gg = true ∨ (gg = false ∧ cut < 0) ∨ (gg = false ∧ ¬ cut < 0 ∧ (rs.length : Int) < cut)) := by
      rcases hge with h | h
      · exact .inl h
      · cases gg
        · by_cases h2 : cut < 0
          · exact .inr (.inl ⟨rfl, h2⟩)
          · exact .inr (.inr ⟨rfl, h2, by omega⟩)
        · exact .inl rfl
    clear hge hgg
    rcases HGO.out with rfl | ⟨rfl, h3⟩ | ⟨rfl, h3, h4⟩
    all_goals
      go_wp2_with fail
      refine (alive_any _).mono ?_
      rintro e w2 ⟨rfl, hb2⟩
      have HB2 : Hid _ := hb2
      clear hb2
      go_wp2_with fail
      go_ret
      exact ⟨rfl, HB2.out⟩
  · have hgf : gg = false := by cases gg; rfl; simp at hge
    obtain ⟨c, rfl⟩ : ∃ c : Nat, cut = (c : Int) := ⟨cut.toNat, by omega⟩
    have hc : c ≤ rs.length := by omega
    have hgt : ¬ (rs.length < c) := by omega
    have HG : Hid (rs.length ≤ 20 ∧ ∀ r ∈ rs, okRow r) := hgg hgf
    have HOK : Hid (OkRs rs) := okRs_of HG.out
    clear hgg hge
    subst hgf
    go_wp2_with fail
    refine (all_some _ rs _ HR.out HOK.out.l1 HOK.out.l2 HOK.out.l3).mono ?_
    rintro e w2 ⟨hb2, ⟨hne, rfl⟩ | ⟨hz, l, xs, rfl, ho, hm, hc2⟩⟩
    · have HB2 : Hid _ := hb2
      have hb0 : (rowsF rs == 0) = false := by simp [hne]
      clear hb2 hne
      generalize rowsF rs = rr at *
      go_wp2_with fail
      refine (alive_any _).mono ?_
      rintro e w3 ⟨rfl, hb3⟩
      have HB3 : Hid (Below w1.heap.size w1 w3) := HB2.out.trans (hb3.mono HB2.out.size)
      clear hb3
      go_wp2_with fail
      go_ret
      exact ⟨rfl, HB3.out⟩
    · have HB2 : Hid (Below w1.heap.size w1 w2) := hb2
      have HZ : Hid (rowsF rs = 0) := hz
      have HGD : Hid (GdR rs) := gd_rows hz HCN.out HS.out
      have HE2 : Hid (EReads w2 l (allF rs)) := by have h9 := ho.reads hc2; rw [hm] at h9; exact h9
      clear hb2 hz ho hm hc2 HS
      obtain ⟨A, HA⟩ := hid_ex (allF rs)
      rw [← HA.out] at HE2
      obtain ⟨la, lc, rfl, hla, hlb⟩ := HE2.out.form
      unfold maxLen at hlb
      obtain ⟨t, ht⟩ : ∃ t : Nat, bits .and .i64 turn 1023 = (t : Int) := ⟨(turn % 1024).toNat, by rw [i64_and1023]; omega⟩
      have ht2 : t ≤ 1023 := by rw [i64_and1023] at ht; omega
      obtain ⟨i0, hif, hz0, hz1, hz2⟩ := info_parts infoG
      have h20 : rs.length ≤ 20 := HG.out.1
      obtain ⟨an, Han⟩ := hid_ex A.length
      rw [← Han.out] at HE2 hla ⊢
      go_wp2_with fail
      go_loopw [9, 10] (fun mv i wr => ∃ k : Nat, k ≤ rs.length ∧ i = .int .i64 (k : Int) ∧ Hid (GOwn w1 wr w2.heap.size mv ((rotl rs t).take k)) ∧ Hid (Below w2.heap.size w2 wr)) (fun _ i _ => rs.length - (intOf i).toNat)
      case atStart => exact ⟨0, by omega, rfl, GOwn.nil _ _ _, Below.refl _ _⟩
      case round =>
        obtain ⟨k, hk, rfl, HO, HW⟩ := hrel
        by_cases hlt : k < rs.length
        · have hmod : (k + t) % rs.length < rs.length := Nat.mod_lt _ (by omega)
          obtain ⟨rb, ro, cap', hv, _, _, hrb⟩ := rReads_some HR.out (by omega)
          simp at hv
          obtain ⟨rfl, rfl⟩ := hv
          obtain ⟨ev, d1, hev⟩ := rReads_at HR.out hmod
          obtain ⟨ea, ec, rfl, hle1, hle2⟩ := hev.form
          have HBr : Hid (Below w1.heap.size w1 wr) := HB2.out.trans (HW.out.mono HB2.out.size)
          have c1 := (HBr.out.cell (p := ⟨rb, ro + (k + t) % rs.length, none⟩) hrb).trans d1
          have hm1 : (0 : Int) ≤ ((k : Int) + (t : Int)) % (rs.length : Int) := Int.emod_nonneg _ (by omega)
          have hm2 : ((k : Int) + (t : Int)) % (rs.length : Int) < (rs.length : Int) := Int.emod_lt_of_pos _ (by omega)
          have HST : Hid _ := rotl_step (L := rs) (t := t) hlt
          have hlk : ((rotl rs t).take k).length = k := by rw [List.length_take, rotl_len]; omega
          obtain ⟨vs, hown, hvl, hvr⟩ := HO.out
          have HVL : Hid _ := hvl
          have HVR : Hid _ := hvr
          rw [hlk] at hown
          obtain ⟨am, cm, hmf⟩ := HO.out.form
          rw [hlk] at hmf
          subst hmf
          obtain ⟨r, Hr⟩ := hid_ex rs[(k + t) % rs.length]
          rw [← Hr.out] at c1 hev HST
          have HEV : Hid (EReads w1 (.slice ea r.length ec) r) := hev
          obtain ⟨rn, Hrn⟩ := hid_ex r.length
          rw [← Hrn.out] at c1 HEV
          have hsz := HW.out.size
          obtain ⟨v6, w6, hrun, hown6, hgrow6, _⟩ := run_append_own (P := Try.prog) (wr.alloc (.cells #[.slice ea rn ec] 25)) w2.heap.size 22 22 25 i0 _ 1 24 Try.underlying22 hif hz0 hz1 hz2 rfl (by decide) (.slice am k cm) k vs (hown.alloc _) ⟨wr.heap.size, 0, none⟩ 1 1 [.slice ea rn ec] rfl news1 (by simp [Value.oneCell']) (by unfold maxLen; omega) (by omega) (al_ok hsz)
          have HO6 : Hid (GOwn w1 w6 w2.heap.size v6 ((rotl rs t).take (k + 1))) := GOwn.snoc HST.out vs (by rw [hlk]; exact hown6) HVL.out HVR.out HEV.out
          have HW6 : Hid (Below w2.heap.size w2 w6) := (HW.out.alloc hsz _).grown hgrow6 (al_ok hsz) (own_block hown)
          clear d1 hev hmod hle1 hle2 hvl hvr HST hlk hown hown6 hgrow6 HO HVL HVR Hrn Hr HBr
          go_wp2_with (at_builtin; refine wpList_app_run rfl _ _ _ _ rfl rfl _ _ _ rfl rfl hrun ?_)
          clear c1 hm1 hm2 hrun
          (try go_wp2_with fail)
          go_roundw
          case rel => exact ⟨k + 1, by omega, by go_num, HO6, HW6⟩
          case measure => simp [intOf]; omega
        · obtain rfl : k = rs.length := by omega
          have HBr : Hid (Below w1.heap.size w1 wr) := HB2.out.trans (HW.out.mono HB2.out.size)
          have HM : Hid (RReads wr u9 (rotl rs t)) := by
            have h := HO.out
            rw [List.take_of_length_le (by rw [rotl_len]; omega)] at h
            exact h.reads HBr.out
          have HP1 : Hid _ := allF_perm (rotl_perm rs t).symm HZ.out HGD.out
          have HP2 : Hid _ := allF_parts c HZ.out HGD.out HCN.out
          have HEr : Hid (EReads wr (.slice la an lc) A) := HE2.out.below HW.out
          obtain ⟨ma, mc, rfl, _⟩ := HM.out
          obtain ⟨mn, Hmn⟩ := hid_ex (rotl rs t).length
          rw [← Hmn.out] at HM ⊢
          clear HO HW HE2 hif hz0 hz1 hz2
          have HTK : Hid (OkRs (rotl rs t)) := ⟨by rw [rotl_len]; exact HOK.out.l1, fun r hr => HOK.out.l2 r ((rotl_perm rs t).mem_iff.1 hr), fun r hr => HOK.out.l3 r ((rotl_perm rs t).mem_iff.1 hr)⟩
          go_wp2_with fail
          refine (all_ok _ (rotl rs t) _ HM.out HTK.out.l1 HTK.out.l2 HTK.out.l3 HP1.out.1 A (by rw [HP1.out.2]; exact HA.out)).mono ?_
          rintro e w3 ⟨ba, bc, rfl, hE3, hb3⟩
          rw [← Han.out] at hE3 ⊢
          have HE3 : Hid _ := hE3
          have HB3 : Hid (Below w1.heap.size w1 w3) := HBr.out.trans (hb3.mono HBr.out.size)
          have HEl3 : Hid (EReads w3 (.slice la an lc) A) := HEr.out.below hb3
          obtain ⟨a4, f4, hs4, hr4⟩ := gsl_upto HR.out hc
          obtain ⟨a5, f5, hs5, hr5⟩ := gsl_from HR.out hc
          have HR4 : Hid _ := hr4
          have HR5 : Hid _ := hr5
          clear hE3 hb3 hr4 hr5 HBr HEr HM HTK
          go_wp2_with fail
          refine (all_ok _ (rs.take c) _ (RReads.below HR4.out HB3.out) (by have := HOK.out.l1; rw [List.length_take]; omega) (fun r hr => HOK.out.l2 r (List.mem_of_mem_take hr)) (fun r hr => HOK.out.l3 r (List.mem_of_mem_take hr)) HP2.out.1 _ rfl).mono ?_
          rintro e w4 ⟨pa, pc, rfl, hE4, hb4⟩
          obtain ⟨pn, Hpn⟩ := hid_ex (allF (rs.take c)).length
          rw [← Hpn.out] at hE4 ⊢
          have HE4 : Hid _ := hE4
          have HB4 : Hid (Below w1.heap.size w1 w4) := HB3.out.trans (hb4.mono HB3.out.size)
          have HEl4 : Hid (EReads w4 (.slice la an lc) A) := HEl3.out.below hb4
          have HEm4 : Hid (EReads w4 (.slice ba an bc) A) := EReads.below HE3.out hb4
          clear hE4 hb4 HB3 HEl3 HE3
          go_wp2_with fail
          refine (all_ok _ (rs.drop c) _ (RReads.below HR5.out HB4.out) (by have := HOK.out.l1; rw [List.length_drop]; omega) (fun r hr => HOK.out.l2 r (List.mem_of_mem_drop hr)) (fun r hr => HOK.out.l3 r (List.mem_of_mem_drop hr)) HP2.out.2.1 _ rfl).mono ?_
          rintro e w5 ⟨qa, qc, rfl, hE5, hb5⟩
          obtain ⟨qn, Hqn⟩ := hid_ex (allF (rs.drop c)).length
          rw [← Hqn.out] at hE5 ⊢
          have HE5 : Hid _ := hE5
          have HB5 : Hid (Below w1.heap.size w1 w5) := HB4.out.trans (hb5.mono HB4.out.size)
          have HEl5 : Hid (EReads w5 (.slice la an lc) A) := HEl4.out.below hb5
          have HEm5 : Hid (EReads w5 (.slice ba an bc) A) := HEm4.out.below hb5
          have HEp5 : Hid (EReads w5 (.slice pa pn pc) (allF (rs.take c))) := EReads.below HE4.out hb5
          clear hE5 hb5 HB4 HEl4 HEm4 HE4
          go_wp2_with fail
          obtain ⟨w6, HW6⟩ := hid_ex (w5.alloc (.cells #[.slice pa pn pc, .slice qa qn qc] 25))
          have HR6 : Hid (RReads w6 (.slice (some ⟨w5.heap.size, 0, none⟩) 2 2) [allF (rs.take c), allF (rs.drop c)]) := by rw [HW6.out]; exact two_lists HEp5.out HE5.out
          have hb6 : Below w5.heap.size w5 w6 := by rw [HW6.out]; exact (Below.refl w5.heap.size w5).alloc (Nat.le_refl _) _
          have HB6 : Hid (Below w1.heap.size w1 w6) := HB5.out.trans (hb6.mono HB5.out.size)
          have HEl6 : Hid (EReads w6 (.slice la an lc) A) := HEl5.out.below hb6
          have HEm6 : Hid (EReads w6 (.slice ba an bc) A) := HEm5.out.below hb6
          rw [← HW6.out]
          clear hb6 HW6 HB5 HEl5 HEm5 HEp5 HE5
          have HS1 : Hid _ := all_sml (rs := rs.take c) ⟨by rw [List.length_take]; omega, fun r hr => HG.out.2 r (List.mem_of_mem_take hr)⟩ HP2.out.1 (fun r hr => HCN.out r (List.mem_of_mem_take hr))
          have HS2 : Hid _ := all_sml (rs := rs.drop c) ⟨by rw [List.length_drop]; omega, fun r hr => HG.out.2 r (List.mem_of_mem_drop hr)⟩ HP2.out.2.1 (fun r hr => HCN.out r (List.mem_of_mem_drop hr))
          refine (all_ok _ [allF (rs.take c), allF (rs.drop c)] _ HR6.out (by simp) (fun r hr => ?_) (fun r hr x hx => ?_) HP2.out.2.2.1 A (by rw [HP2.out.2.2.2]; exact HA.out)).mono ?_
          · simp only [List.mem_cons, List.not_mem_nil, or_false] at hr
            rcases hr with rfl | rfl
            · exact HS1.out.1
            · exact HS2.out.1
          · simp only [List.mem_cons, List.not_mem_nil, or_false] at hr
            rcases hr with rfl | rfl
            · exact HS1.out.2 x hx
            · exact HS2.out.2 x hx
          rintro e w7 ⟨ta, tc, rfl, hE7, hb7⟩
          rw [← Han.out] at hE7 ⊢
          have HE7 : Hid _ := hE7
          have HB7 : Hid (Below w1.heap.size w1 w7) := HB6.out.trans (hb7.mono HB6.out.size)
          have HEl7 : Hid (EReads w7 (.slice la an lc) A) := HEl6.out.below hb7
          have HEm7 : Hid (EReads w7 (.slice ba an bc) A) := HEm6.out.below hb7
          clear hE7 hb7 HB6 HEl6 HEm6 HS1 HS2 HP1 HP2
          go_wp2_with fail
          refine (alive_any _).mono ?_
          rintro e w8 ⟨rfl, hb8⟩
          have HB8 : Hid (Below w1.heap.size w1 w8) := HB7.out.trans (hb8.mono HB7.out.size)
          have HEl8 : Hid (ERd w8 (.slice la an lc) A) := (HEl7.out.below hb8).rd
          have HEm8 : Hid (ERd w8 (.slice ba an bc) A) := (HEm7.out.below hb8).rd
          have HEt8 : Hid (ERd w8 (.slice ta an tc) A) := (EReads.below HE7.out hb8).rd
          clear hb8 HB7 HEl7 HEm7 HE7
          go_wp2_with fail
          refine (same_true _ _ A _ HEl8.out HEm8.out).mono ?_
          rintro e w9 ⟨rfl, hb9⟩
          have HB9 : Hid (Below w1.heap.size w1 w9) := HB8.out.trans (hb9.mono HB8.out.size)
          have HEl9 : Hid (ERd w9 (.slice la an lc) A) := HEl8.out.below hb9
          have HEt9 : Hid (ERd w9 (.slice ta an tc) A) := HEt8.out.below hb9
          clear hb9 HB8 HEl8 HEm8 HEt8
          go_wp2_with fail
          refine (same_true _ _ A _ HEl9.out HEt9.out).mono ?_
          rintro e w10 ⟨rfl, hb10⟩
          have HB10 : Hid (Below w1.heap.size w1 w10) := HB9.out.trans (hb10.mono HB9.out.size)
          clear hb10 HB9 HEl9 HEt9
          go_wp2_with fail
          go_ret
          exact ⟨rfl, HB10.out⟩
theorem order_walk (v : Value) (rs : List (List En)) (turn cut : Int) (w : World) (hR : RReads w v rs) : Calls Try.prog 3 #[v, .int .i64 turn, .int .i64 cut] w fun e w' => e = .returned (.bool true) ∧ Below w.heap.size w w' := by
  obtain ⟨rs', h1, h2⟩ := rReads_nz hR
  exact order_walk0 v rs' turn cut w h1 h2
end Go.Proofs.Ytbadjigfcncfcaa
