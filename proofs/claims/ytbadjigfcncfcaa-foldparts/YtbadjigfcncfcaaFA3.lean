/- The walk of FoldParts. -/
import Derived.Test.YtbadjigfcncfcaaFA2
namespace Go.Proofs.Ytbadjigfcncfcaa
open Go.RowKit Go.Joins

/-- What All tells, in one word. -/
def allR (rs : List (List En)) : List En := if rowsF rs = 0 then allF rs else []
theorem allR_ok {rs : List (List En)} (h : rowsF rs = 0) : allR rs = allF rs := by unfold allR; rw [if_pos h]
theorem all_uni (v : Value) (rs : List (List En)) (w : World) (hR : RReads w v rs) (hl1 : rs.length ≤ 10000) (hl2 : ∀ r ∈ rs, r.length ≤ 100000) (hl3 : ∀ r ∈ rs, ∀ x ∈ r, x.1.length ≤ 100000) :
    Calls Try.prog 11 #[v] w fun e w' => ∃ a cap, e = .returned (.tuple #[.slice a (allR rs).length cap, .int .i64 (rowsF rs)]) ∧ EReads w' (.slice a (allR rs).length cap) (allR rs) ∧ Below w.heap.size w w' := by
  refine (all_some v rs w hR hl1 hl2 hl3).mono ?_
  rintro e w2 ⟨hb2, ⟨hne, rfl⟩ | ⟨hz, l, xs, rfl, ho, hm, hc⟩⟩
  · have e1 : allR rs = [] := by unfold allR; rw [if_neg hne]
    rw [e1]
    exact ⟨none, 0, rfl, eReads_none _, hb2⟩
  · rw [allR_ok hz, hz]
    have h9 := ho.reads hc
    rw [hm] at h9
    obtain ⟨a, cap, rfl, _⟩ := h9.form
    exact ⟨a, cap, rfl, h9, hb2⟩
theorem fit_row {R : Rl} {L : List En} (hs : SrtE L) (hf : FitL R L) : rowF L = 0 := rowF_of hs (fun x hx => (hf x hx).r)
/-- Put together, they fit. -/
theorem can_fit {R : Rl} {A : List En} (hg : GdE A) (hf : FitL R A) : FitL R (can A) := by
  intro y hy
  obtain ⟨z, hz, e⟩ := can_mem hy
  refine ⟨by rw [e]; exact (hf z hz).k, ?_, (can_gd hg y hy).r⟩
  exact can_pos hg (fun u hu => (hf u hu).c) y hy
theorem fit_app {R : Rl} {A B : List En} (hA : FitL R A) (hB : FitL R B) : FitL R (A ++ B) := fun y hy => by
  rcases List.mem_append.1 hy with h | h
  · exact hA y h
  · exact hB y h
theorem parts_pure {R : Rl} {w u v : Int} {A B : List En} (h1 : u ≤ w) (h2 : v ≤ w) (hA : chkF R u A = 0) (hB : chkF R v B = 0) (cA : ∀ x ∈ A, CnOk x.2) (cB : ∀ x ∈ B, CnOk x.2) :
    rowsF [A, B] = 0 ∧ rowsF [foldF R u A, foldF R v B] = 0 ∧ chkF R w (allF [A, B]) = chkF R w (allF [foldF R u A, foldF R v B]) ∧ foR R w (allF [A, B]) = foR R w (allF [foldF R u A, foldF R v B]) ∧ FitL R (allF [A, B]) ∧ FitL R (allF [foldF R u A, foldF R v B]) ∧ (allF [A, B]).length ≤ A.length + B.length ∧ (allF [foldF R u A, foldF R v B]).length ≤ A.length + B.length := by
  obtain ⟨_, hR, _, sA, fA⟩ := chkF_ok hA
  obtain ⟨_, _, _, sB, fB⟩ := chkF_ok hB
  have gA := fit_gd fA cA
  have gB := fit_gd fB cB
  have r1 := row_two (fit_row sA fA) (fit_row sB fB)
  have f1 := foldF_fit (w := u) hR gA fA
  have f2 := foldF_fit (w := v) hR gB fB
  have r2 := row_two (fit_row (foldF_srt R u A) f1) (fit_row (foldF_srt R v B) f2)
  have e1 : allF [A, B] = can (A ++ B) := by
    rw [allF_can r1 (fun r hr => by
      simp only [List.mem_cons, List.not_mem_nil, or_false] at hr
      rcases hr with rfl | rfl
      · exact gA
      · exact gB)]
    simp
  have e2 : allF [foldF R u A, foldF R v B] = can (foldF R u A ++ foldF R v B) := by
    rw [allF_can r2 (fun r hr => by
      simp only [List.mem_cons, List.not_mem_nil, or_false] at hr
      rcases hr with rfl | rfl
      · exact foldF_gd gA
      · exact foldF_gd gB)]
    simp
  have t1 : FitL R (allF [A, B]) := by rw [e1]; exact can_fit (GdE.app.2 ⟨gA, gB⟩) (fit_app fA fB)
  have t2 : FitL R (allF [foldF R u A, foldF R v B]) := by rw [e2]; exact can_fit (GdE.app.2 ⟨foldF_gd gA, foldF_gd gB⟩) (fit_app f1 f2)
  have q1 : SrtE (allF [A, B]) := by rw [e1]; exact can_srt _
  have q2 : SrtE (allF [foldF R u A, foldF R v B]) := by rw [e2]; exact can_srt _
  have n1 : (allF [A, B]).length ≤ A.length + B.length := by rw [e1]; have := can_len (A ++ B); simp at this; omega
  have n2 : (allF [foldF R u A, foldF R v B]).length ≤ A.length + B.length := by
    rw [e2]
    have h3 := can_len (foldF R u A ++ foldF R v B)
    have h4 := foldF_len R u A
    have h5 := foldF_len R v B
    simp at h3; omega
  refine ⟨r1, r2, ?_, ?_, t1, t2, n1, n2⟩
  · by_cases hf : fE R 0 w = 0
    · rw [chkF_of hf q1 t1, chkF_of hf q2 t2]
    · rw [chkF_e hf, chkF_e hf]
  · by_cases hf : fE R 0 w = 0
    · rw [foR_ok (chkF_of hf q1 t1), foR_ok (chkF_of hf q2 t2), e1, e2]
      exact (foldF_parts hR h1 h2 gA gB fA fB).symm
    · rw [foR_no (by rw [chkF_e hf]; exact hf), foR_no (by rw [chkF_e hf]; exact hf)]
set_option maxRecDepth 100000 in
set_option maxHeartbeats 4000000 in
theorem parts_walk (R : Rl) (wm one two : Int) (va : Value) (A : List En) (vb : Value) (B : List En) (w : World) (hL : Lies R w.heap.size w) (hEa : EReads w va A) (hEb : EReads w vb B) :
    Calls Try.prog 6 #[.agg #[.slice R.a R.len R.cap, .int .i64 R.kp], .int .i64 wm, .int .i64 one, .int .i64 two, va, vb] w fun e w' => e = .returned (.bool true) ∧ Below w.heap.size w w' := by
  have HEa : Hid (EReads w va A) := hEa
  have HEb : Hid (EReads w vb B) := hEb
  have HL : Hid (Lies R w.heap.size w) := hL
  have HCA : Hid _ := hEa.ok
  have HCB : Hid _ := hEb.ok
  obtain ⟨aa, ac, rfl, _, ham⟩ := hEa.form
  obtain ⟨ba, bc, rfl, _, hbm⟩ := hEb.form
  unfold maxLen at ham hbm
  clear hEa hEb hL
  obtain ⟨w1, HW1⟩ := hid_ex (w.alloc (.cells #[.slice R.a R.len R.cap, .int .i64 R.kp] 33))
  have HB1 : Hid (Below w.heap.size w w1) := by rw [HW1.out]; exact new_below _ _
  have HX1 : Hid (RBox R w.heap.size w1) := by rw [HW1.out]; exact RBox.new R w _
  have HLI : Hid (∀ W, Below w1.heap.size w1 W → Lies R W.heap.size W ∧ RBox R w.heap.size W ∧ Below w.heap.size w W ∧ EReads W (.slice aa A.length ac) A ∧ EReads W (.slice ba B.length bc) B) := fun W hW => by
    have hb := HB1.out.trans (hW.mono HB1.out.size)
    exact ⟨HL.out.at hb, HX1.out.below hW, hb, HEa.out.below hb, HEb.out.below hb⟩
  obtain ⟨la, Hla⟩ := hid_ex A.length
  obtain ⟨lb, Hlb⟩ := hid_ex B.length
  rw [← Hla.out, ← Hlb.out] at HLI
  rw [← Hla.out, ← Hlb.out]
  go_enter Try.func6, Try.ntmps6
  go_wp2_with fail
  rw [← HW1.out]
  clear HW1
  refine (great15_any _ A _ (HLI.out _ (Below.refl _ _)).2.2.2.1).mono ?_
  rintro e w2 ⟨g1, rfl, hg1, hw2⟩
  rw [hw2]
  clear hw2 w2
  cases g1 with
  | true =>
    go_wp2_with fail
    refine (alive15_any _).mono ?_
    rintro e w2 ⟨rfl, hb2⟩
    have HB2 : Hid (Below w.heap.size w w2) := HB1.out.trans (hb2.mono HB1.out.size)
    clear hb2
    go_wp2_with fail
    go_ret
    exact ⟨rfl, HB2.out⟩
  | false =>
    have HGA : Hid (okRow15 A) := hg1 rfl
    clear hg1
    go_wp2_with fail
    refine (great15_any _ B _ (HLI.out _ (Below.refl _ _)).2.2.2.2).mono ?_
    rintro e w2 ⟨g2, rfl, hg2, hw2⟩
    rw [hw2]
    clear hw2 w2
    by_cases hge : g2 = true ∨ wm < one ∨ wm < two
    · have HGO : Hid (g2 = true ∨ (g2 = false ∧ wm < one) ∨ (g2 = false ∧ ¬ wm < one ∧ wm < two)) := by
        rcases hge with h | h
        · exact .inl h
        · cases g2
          · by_cases h2 : wm < one
            · exact .inr (.inl ⟨rfl, h2⟩)
            · exact .inr (.inr ⟨rfl, h2, by omega⟩)
          · exact .inl rfl
      clear hge hg2
      rcases HGO.out with rfl | ⟨rfl, h3⟩ | ⟨rfl, h3, h4⟩
      all_goals
        go_wp2_with fail
        refine (alive15_any _).mono ?_
        rintro e w2 ⟨rfl, hb2⟩
        have HB2 : Hid (Below w.heap.size w w2) := HB1.out.trans (hb2.mono HB1.out.size)
        clear hb2
        go_wp2_with fail
        go_ret
        exact ⟨rfl, HB2.out⟩
    · have hgf : g2 = false := by cases g2; rfl; simp at hge
      have hw1 : one ≤ wm := by omega
      have hw2 : two ≤ wm := by omega
      have hn1 : ¬ wm < one := by omega
      have hn2 : ¬ wm < two := by omega
      have HGB : Hid (okRow15 B) := hg2 hgf
      have HlA : Hid (A.length ≤ 60) := HGA.out.1
      have HlB : Hid (B.length ≤ 60) := HGB.out.1
      have HKA : Hid (∀ x ∈ A, x.1.length ≤ 1000) := fun x hx => by have := HGA.out.2 x hx; omega
      have HKB : Hid (∀ x ∈ B, x.1.length ≤ 1000) := fun x hx => by have := HGB.out.2 x hx; omega
      clear hg2 hge
      subst hgf
      obtain ⟨r0, r1⟩ := HX1.out.at
      go_wp2_with fail
      refine (fold_uni R one _ A _ (HLI.out _ (Below.refl _ _)).1 (HLI.out _ (Below.refl _ _)).2.2.2.1 (by have := HlA.out; omega) HKA.out).mono ?_
      rintro e w2 ⟨xa, xc, rfl, hr2, hb2⟩
      have HB2 : Hid (Below w1.heap.size w1 w2) := hb2
      obtain ⟨P, HP⟩ := hid_ex (foR R one A)
      obtain ⟨e1, He1⟩ := hid_ex (chkF R one A)
      rw [← HP.out] at hr2 ⊢
      rw [← He1.out]
      obtain ⟨pn, Hpn⟩ := hid_ex P.length
      rw [← Hpn.out] at hr2 ⊢
      have HR2 : Hid (EReads w2 (.slice xa pn xc) P) := hr2
      clear hb2 hr2 r0 r1
      obtain ⟨r0, r1⟩ := (HLI.out _ HB2.out).2.1.at
      go_wp2_with fail
      refine (fold_uni R two _ B _ (HLI.out _ HB2.out).1 (HLI.out _ HB2.out).2.2.2.2 (by have := HlB.out; omega) HKB.out).mono ?_
      rintro e w3 ⟨ya, yc, rfl, hr3, hb3⟩
      have HB3 : Hid (Below w1.heap.size w1 w3) := HB2.out.trans (hb3.mono HB2.out.size)
      have HRp3 : Hid (EReads w3 (.slice xa pn xc) P) := HR2.out.below hb3
      obtain ⟨Q, HQ⟩ := hid_ex (foR R two B)
      obtain ⟨e2, He2⟩ := hid_ex (chkF R two B)
      rw [← HQ.out] at hr3 ⊢
      rw [← He2.out]
      obtain ⟨qn, Hqn⟩ := hid_ex Q.length
      rw [← Hqn.out] at hr3 ⊢
      have HRq3 : Hid (EReads w3 (.slice ya qn yc) Q) := hr3
      clear hb3 hr3 r0 r1
      obtain ⟨w4, HW4⟩ := hid_ex (w3.alloc (.cells #[.slice aa la ac, .slice ba lb bc] 25))
      have hb4 : Below w3.heap.size w3 w4 := by rw [HW4.out]; exact new_below _ _
      have HB4 : Hid (Below w1.heap.size w1 w4) := HB3.out.trans (hb4.mono HB3.out.size)
      have HRp4 : Hid (EReads w4 (.slice xa pn xc) P) := HRp3.out.below hb4
      have HRq4 : Hid (EReads w4 (.slice ya qn yc) Q) := HRq3.out.below hb4
      have HRR4 : Hid (RReads w4 (.slice (some ⟨w3.heap.size, 0, none⟩) 2 2) [A, B]) := by rw [HW4.out]; exact two_lists (HLI.out _ HB3.out).2.2.2.1 (HLI.out _ HB3.out).2.2.2.2
      clear hb4
      go_wp2_with fail
      rw [← HW4.out]
      clear HW4
      refine (all_uni _ [A, B] _ HRR4.out (by simp) (fun r hr => ?_) (fun r hr x hx => ?_)).mono ?_
      · simp only [List.mem_cons, List.not_mem_nil, or_false] at hr
        rcases hr with rfl | rfl
        · have := HlA.out; omega
        · have := HlB.out; omega
      · simp only [List.mem_cons, List.not_mem_nil, or_false] at hr
        rcases hr with rfl | rfl
        · have := HKA.out x hx; omega
        · have := HKB.out x hx; omega
      rintro e w5 ⟨ta, tc, rfl, hr5, hb5⟩
      have HB5 : Hid (Below w1.heap.size w1 w5) := HB4.out.trans (hb5.mono HB4.out.size)
      have HRp5 : Hid (EReads w5 (.slice xa pn xc) P) := HRp4.out.below hb5
      have HRq5 : Hid (EReads w5 (.slice ya qn yc) Q) := HRq4.out.below hb5
      obtain ⟨T, HT⟩ := hid_ex (allR [A, B])
      obtain ⟨e3, He3⟩ := hid_ex (rowsF [A, B])
      rw [← HT.out] at hr5 ⊢
      rw [← He3.out]
      obtain ⟨tn, Htn⟩ := hid_ex T.length
      rw [← Htn.out] at hr5 ⊢
      have HRt5 : Hid (EReads w5 (.slice ta tn tc) T) := hr5
      clear hb5 hr5
      by_cases hz : e1 = 0 ∧ e2 = 0 ∧ e3 = 0
      · obtain ⟨rfl, rfl, rfl⟩ := hz
        have hp := parts_pure hw1 hw2 He1.out.symm He2.out.symm HCA.out HCB.out
        have hEP : P = foldF R one A := by rw [HP.out, foR_ok He1.out.symm]
        have hEQ : Q = foldF R two B := by rw [HQ.out, foR_ok He2.out.symm]
        have hET : T = allF [A, B] := by rw [HT.out, allR_ok He3.out.symm]
        rw [← hEP, ← hEQ, ← hET] at hp
        obtain ⟨_, hp2, hp3, hp4, hp5, hp6, hp7, hp8⟩ := hp
        have HP2 : Hid (rowsF [P, Q] = 0) := hp2
        have hPf : P.length ≤ 60 := by rw [hEP]; have := foldF_len R one A; have := HlA.out; omega
        have hQf : Q.length ≤ 60 := by rw [hEQ]; have := foldF_len R two B; have := HlB.out; omega
        obtain ⟨_, hR, _, _, fA⟩ := chkF_ok He1.out.symm
        obtain ⟨_, _, _, _, fB⟩ := chkF_ok He2.out.symm
        have HPk : Hid (∀ x ∈ P, x.1.length ≤ 100000) := fun x hx => by
          have h9 := fit_short (foldF_fit (w := one) hR (fit_gd fA HCA.out) fA x (by rw [← hEP]; exact hx)).k
          omega
        have HQk : Hid (∀ x ∈ Q, x.1.length ≤ 100000) := fun x hx => by
          have h9 := fit_short (foldF_fit (w := two) hR (fit_gd fB HCB.out) fB x (by rw [← hEQ]; exact hx)).k
          omega
        obtain ⟨U, HU⟩ := hid_ex (allF [P, Q])
        rw [← HU.out] at hp3 hp4 hp6 hp8
        have HTk : Hid (∀ x ∈ T, x.1.length ≤ 1000) := fun x hx => fit_short (hp5 x hx).k
        have HUk : Hid (∀ x ∈ U, x.1.length ≤ 1000) := fun x hx => fit_short (hp6 x hx).k
        have hTl : T.length ≤ 100000 := by have := HlA.out; have := HlB.out; omega
        have hUl : U.length ≤ 100000 := by have := HlA.out; have := HlB.out; omega
        have HP3 : Hid (chkF R wm T = chkF R wm U) := hp3
        have HP4 : Hid (foR R wm T = foR R wm U) := hp4
        have HPl : Hid (P.length ≤ 60) := hPf
        have HQl : Hid (Q.length ≤ 60) := hQf
        obtain ⟨w6, HW6⟩ := hid_ex (w5.alloc (.cells #[.slice xa pn xc, .slice ya qn yc] 25))
        have hb6 : Below w5.heap.size w5 w6 := by rw [HW6.out]; exact new_below _ _
        have HB6 : Hid (Below w1.heap.size w1 w6) := HB5.out.trans (hb6.mono HB5.out.size)
        have HRt6 : Hid (EReads w6 (.slice ta tn tc) T) := HRt5.out.below hb6
        have HRR6 : Hid (RReads w6 (.slice (some ⟨w5.heap.size, 0, none⟩) 2 2) [P, Q]) := by rw [HW6.out]; exact two_lists HRp5.out HRq5.out
        clear hp2 hp3 hp4 hp5 hp6 hp7 hp8 hEP hEQ hET hPf hQf hR fA fB hb6 He1 He2 He3 HP HQ HT
        go_wp2_with fail
        rw [← HW6.out]
        clear HW6
        refine (all_ok _ [P, Q] _ HRR6.out (by simp) (fun r hr => ?_) (fun r hr x hx => ?_) HP2.out U HU.out).mono ?_
        · simp only [List.mem_cons, List.not_mem_nil, or_false] at hr
          rcases hr with rfl | rfl
          · have := HPl.out; omega
          · have := HQl.out; omega
        · simp only [List.mem_cons, List.not_mem_nil, or_false] at hr
          rcases hr with rfl | rfl
          · exact HPk.out x hx
          · exact HQk.out x hx
        rintro e w7 ⟨ua, uc, rfl, hr7, hb7⟩
        have HB7 : Hid (Below w1.heap.size w1 w7) := HB6.out.trans (hb7.mono HB6.out.size)
        have HRt7 : Hid (EReads w7 (.slice ta tn tc) T) := HRt6.out.below hb7
        obtain ⟨un, Hun⟩ := hid_ex U.length
        rw [← Hun.out] at hr7 ⊢
        have HRu7 : Hid (EReads w7 (.slice ua un uc) U) := hr7
        clear hr7 hb7
        obtain ⟨r0, r1⟩ := (HLI.out _ HB7.out).2.1.at
        go_wp2_with fail
        refine (fold_uni R wm _ T _ (HLI.out _ HB7.out).1 HRt7.out hTl HTk.out).mono ?_
        rintro e w8 ⟨pa, pc, rfl, hr8, hb8⟩
        rw [HP4.out] at hr8 ⊢
        rw [HP3.out]
        have HB8 : Hid (Below w1.heap.size w1 w8) := HB7.out.trans (hb8.mono HB7.out.size)
        have HRu8 : Hid (EReads w8 (.slice ua un uc) U) := HRu7.out.below hb8
        obtain ⟨V, HV⟩ := hid_ex (foR R wm U)
        rw [← HV.out] at hr8 ⊢
        obtain ⟨e4, He4⟩ := hid_ex (chkF R wm U)
        rw [← He4.out]
        obtain ⟨vn, Hvn⟩ := hid_ex V.length
        rw [← Hvn.out] at hr8 ⊢
        have HRv8 : Hid (EReads w8 (.slice pa vn pc) V) := hr8
        clear hr8 hb8 r0 r1
        obtain ⟨r0, r1⟩ := (HLI.out _ HB8.out).2.1.at
        go_wp2_with fail
        refine (fold_uni R wm _ U _ (HLI.out _ HB8.out).1 HRu8.out hUl HUk.out).mono ?_
        rintro e w9 ⟨qa, qc, rfl, hr9, hb9⟩
        rw [← HV.out] at hr9 ⊢
        rw [← He4.out]
        rw [← Hvn.out] at hr9 ⊢
        have HB9 : Hid (Below w1.heap.size w1 w9) := HB8.out.trans (hb9.mono HB8.out.size)
        have HRv9 : Hid (EReads w9 (.slice pa vn pc) V) := HRv8.out.below hb9
        have HRx9 : Hid (EReads w9 (.slice qa vn qc) V) := hr9
        clear hr9 hb9 r0 r1 He4
        go_wp2_with fail
        refine (alive15_any _).mono ?_
        rintro e w10 ⟨rfl, hb10⟩
        have HB10 : Hid (Below w1.heap.size w1 w10) := HB9.out.trans (hb10.mono HB9.out.size)
        have HRv10 : Hid (EReads w10 (.slice pa vn pc) V) := HRv9.out.below hb10
        have HRx10 : Hid (EReads w10 (.slice qa vn qc) V) := HRx9.out.below hb10
        clear hb10
        go_wp2_with fail
        refine (same_true _ _ V _ HRv10.out.rd HRx10.out.rd).mono ?_
        rintro e w11 ⟨rfl, hb11⟩
        have HB11 : Hid (Below w.heap.size w w11) := (HLI.out _ (HB10.out.trans (hb11.mono HB10.out.size))).2.2.1
        clear hb11
        go_wp2_with fail
        go_ret
        exact ⟨rfl, HB11.out⟩
      · have HZ : Hid ((e1 == 0) = false ∨ (e1 = 0 ∧ (e2 == 0) = false) ∨ (e1 = 0 ∧ e2 = 0 ∧ (e3 == 0) = false)) := by
          by_cases h1 : e1 = 0
          · by_cases h2 : e2 = 0
            · exact .inr (.inr ⟨h1, h2, by simp; exact fun h3 => hz ⟨h1, h2, h3⟩⟩)
            · exact .inr (.inl ⟨h1, by simp [h2]⟩)
          · exact .inl (by simp [h1])
        clear hz He1 He2 He3
        rcases HZ.out with h1 | ⟨rfl, h2⟩ | ⟨rfl, rfl, h3⟩
        all_goals
          go_wp2_with fail
          all_goals
            refine (alive15_any _).mono ?_
            rintro e w6 ⟨rfl, hb6⟩
            have HB6 : Hid (Below w.heap.size w w6) := (HLI.out _ (HB5.out.trans (hb6.mono HB5.out.size))).2.2.1
            clear hb6
            go_wp2_with fail
            go_ret
            exact ⟨rfl, HB6.out⟩
end Go.Proofs.Ytbadjigfcncfcaa
