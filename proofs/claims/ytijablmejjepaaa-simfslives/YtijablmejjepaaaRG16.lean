/- The document's file system: Append. -/
import Derived.Test.YtijablmejjepaaaRG15
import Derived.Test.YtijablmejjepaaaRG9u
namespace Go.Proofs.Ytijablmejjepaaa
open Go.RowKit Go.Maps Go.Sort

theorem used_le {s : SfS} (hw : SfWf s) : sfUsed s ≤ 268435456 := by
  unfold sfUsed
  have h1 := sum_bd (l := s.dir) (fun p => (s.fl p.2).1.length) 1048576 (fun p _ => fl_bd hw p.2)
  have h2 := dir_len hw
  have := Nat.mul_le_mul_right 1048576 h2
  omega
set_option maxRecDepth 100000 in
set_option maxHeartbeats 8000000 in
theorem refAppend_any {w : World} {O : Nat → Prop} {g : Nat} {vf vd vo vp : Value} {af ee : Int} {fb : Nat → Nat} {va vb : Nat → Value} {s : SfS} (h : RfAt w O g vf vd vo vp af ee fb va vb s) (hw : SfWf s) (n : List UInt8) (bv : Value) (b : List UInt8) (hbl : b.length ≤ 1000000) (hRb : ∀ w', Onl O w w' → Reads w' bv b) :
    Calls Try.prog 22 #[.pointer (some ⟨g, 0, none⟩), .string ⟨n.toArray⟩, bv] w fun e w' => e = .returned (.int .i64 (sfAppend s n b).1) ∧ RfTo w w' O g (sfAppend s n b).2 := by
  have hdl := dir_len hw
  have HFn : Hid (Calls Try.prog 42 #[.pointer (some ⟨g, 0, none⟩), .string ⟨n.toArray⟩] w _) := refFind_any h.hd h.c1.2.1 n (by omega)
  have HR : Hid (RfAt w O g vf vd vo vp af ee fb va vb s) := h
  have HLt : Hid (∀ k, O k → k < w.heap.size) := h.lt
  have HW : Hid (SfWf s) := hw
  have HRb : Hid (∀ w', Onl O w w' → Reads w' bv b) := hRb
  obtain ⟨ba, bc9, rfl, hbm⟩ := (hRb w (Onl.refl _ _)).form
  have HRm : Hid (sfAppend s n b = match sfLook n s.dir with | none => (4, s) | some i => if 1048576 < (s.fl i).1.length + b.length then (2, s) else if s.room < ((sfUsed s + b.length : Nat) : Int) then (81, s) else if (sfPlan s).1 = 0 then (0, (sfPlan s).2.setF i ((s.fl i).1 ++ b, (s.fl i).2)) else sfPlan s) := rfl
  obtain ⟨R, HRe⟩ := hid_ex (sfAppend s n b)
  rw [← HRe.out] at HRm ⊢
  obtain ⟨BL, HBL⟩ : ∃ n, Hid (b.length = n) := ⟨_, rfl⟩
  rw [HBL.out] at HRm HRb hbl ⊢
  clear h hw hdl HRe hRb hbm
  cases hl : sfLook n s.dir with
  | none =>
    rw [hl] at HFn HRm
    simp only [rfN] at HFn HRm
    have hneg : (-1 : Int) < 0 := by omega
    clear hl
    go_enter Try.func22, Try.ntmps22
    go_wp2_with fail
    refine HFn.out.mono ?_
    rintro e w1 ⟨rfl, hw1⟩
    subst w1
    go_wp2_with fail
    go_ret
    rw [HRm.out]
    exact ⟨rfl, HR.out.to⟩
  | some i =>
    have HIl : Hid (i < s.fls.length) := by
      obtain ⟨p, hp, rfl⟩ := rlook_mem hl
      exact (HW.out.di p hp).1
    rw [hl] at HFn HRm
    simp only [rfN] at HFn HRm
    have hnn : ¬ (i : Int) < 0 := by omega
    have hXb := fl_bd HW.out i
    have hUb := used_le HW.out
    have HBy : Hid (Calls Try.prog 32 #[.pointer (some ⟨g, 0, none⟩), .int .i64 (i : Int)] w _) := refBytes_any HR.out HW.out HIl.out
    have HUs : Hid (∀ w', Below w.heap.size w w' → Calls Try.prog 31 #[.pointer (some ⟨g, 0, none⟩)] w' _) := fun w' hb => refUsed_any (HR.out.below hb) HW.out
    obtain ⟨U, HU⟩ := hid_ex (sfUsed s)
    rw [← HU.out] at HUs HRm hUb
    obtain ⟨XL, HXL⟩ : ∃ n, Hid ((s.fl i).1.length = n) := ⟨_, rfl⟩
    rw [HXL.out] at HRm hXb
    obtain ⟨rm, Hrm⟩ := hid_ex s.room
    have HRo : Hid (∀ w', Below w.heap.size w w' → w'.cell? ⟨g, 0, none⟩ = some (.int .i64 rm)) := fun w' hb => by rw [Hrm.out]; exact (HR.out.below hb).c1.2.2.2.2
    have HPl : Hid (∀ w', Below w.heap.size w w' → Calls Try.prog 44 #[.pointer (some ⟨g, 0, none⟩)] w' _) := fun w' hb => refPlanR (HR.out.below hb) HW.out
    rw [← Hrm.out] at HRm
    obtain ⟨E, HE⟩ := hid_ex (sfPlan s).1
    obtain ⟨S1, HS1⟩ := hid_ex (sfPlan s).2
    have HWp : Hid (SfWf S1) := by rw [HS1.out]; exact wf_plan HW.out
    have HFl : Hid (S1.fl i = s.fl i ∧ i < S1.fls.length) := by
      have h1 := (plan_fls s).1
      rw [← HS1.out] at h1
      exact ⟨by unfold SfS.fl; rw [h1], by rw [h1]; exact HIl.out⟩
    have HPr : Hid (sfPlan s = (E, S1)) := by rw [HE.out, HS1.out]; rfl
    rw [← HE.out, ← HS1.out] at HPl
    rw [← HE.out, ← HS1.out, HPr.out] at HRm
    clear hl HE HS1 HPr Hrm HU
    go_enter Try.func22, Try.ntmps22
    go_wp2_with fail
    refine HFn.out.mono ?_
    clear HFn
    rintro e w1 ⟨rfl, hw1⟩
    subst w1
    go_wp2_with fail
    refine HBy.out.mono ?_
    clear HBy
    rintro e w1 ⟨v1, rfl, ho1, hb1⟩
    have HB1 : Hid (Below w.heap.size w w1) := hb1
    obtain ⟨a1, c1, hv1, _⟩ := ho1.form
    rw [HXL.out] at hv1
    subst hv1
    clear ho1 hb1
    by_cases h1 : 1048576 < XL + BL
    · have h1' : (1048576 : Int) < (XL : Int) + (BL : Int) := by omega
      have HRq : Hid (R = (2, s)) := by unfold Hid; rw [HRm.out, if_pos h1]
      clear HRm
      go_wp2_with fail
      go_ret
      rw [HRq.out]
      exact ⟨rfl, ⟨⟨_, _, _, _, _, _, _, _, _, (HR.out.below HB1.out).wider (fun _ q => .inl q) (Grw.lt HLt.out HB1.out.size)⟩, onl_of_below HB1.out⟩⟩
    have h1' : ¬ (1048576 : Int) < (XL : Int) + (BL : Int) := by omega
    have HRq : Hid (R = if rm < ((U + BL : Nat) : Int) then (81, s) else if E = 0 then (0, S1.setF i ((s.fl i).1 ++ b, (s.fl i).2)) else (E, S1)) := by unfold Hid; rw [HRm.out, if_neg h1]
    clear HRm
    go_wp2_with fail
    have HUd : Hid (Calls Try.prog 31 #[.pointer (some ⟨g, 0, none⟩)] w1.drew _) := HUs.out w1.drew HB1.out.drew
    have hadd : IntKind.i64.wrap ((U : Int) + (BL : Int)) = (U : Int) + (BL : Int) := by simp [IntKind.wrap, IntKind.bits, IntKind.signed]; omega
    obtain ⟨c, Hc⟩ := hid_ex (decide (rm < (U : Int) + (BL : Int)))
    refine wp_region_noPanic ?_
    refine wp_region_held_drew (S := (fun w' => Below w.heap.size w w')) (by kernel_rfl) ?_ (fun hHeld => ?_)
    · exact HB1.out.drew
    refine wpAnyH_take (i := 0) (v := .pointer (some ⟨g, 0, none⟩)) rfl (by kernel_rfl) (by kernel_rfl) (by kernel_rfl) (fun _ _ _ h => h) (Or.inl ⟨by rfl, ?_⟩) (by assumption) ?_
    · (intro w1 hSw; (try dsimp only at hSw); go_simp)
    simp only [List.getElem_toArray, List.getElem_cons_zero, Act.put, List.setIfInBounds_toArray, List.set_cons_zero, List.set_cons_succ]
    refine wpAnyH_take (i := 2) (v := .slice ba BL bc9) rfl (by kernel_rfl) (by kernel_rfl) (by kernel_rfl) (fun _ _ _ h => h) (Or.inl ⟨by rfl, ?_⟩) (by assumption) ?_
    · (intro w1 hSw; (try dsimp only at hSw); go_simp)
    simp only [List.getElem_toArray, List.getElem_cons_succ, List.getElem_cons_zero, Act.put, List.setIfInBounds_toArray, List.set_cons_zero, List.set_cons_succ]
    refine wpAnyH_take (i := 3) (v := .int .i64 (BL : Int)) rfl (by kernel_rfl) (by kernel_rfl) (by kernel_rfl) (fun _ _ _ h => h) (Or.inl ⟨by rfl, ?_⟩) (by assumption) ?_
    · (intro w1 hSw; (try dsimp only at hSw); go_simp)
    simp only [List.getElem_toArray, List.getElem_cons_succ, List.getElem_cons_zero, Act.put, List.setIfInBounds_toArray, List.set_cons_zero, List.set_cons_succ]
    refine wpAnyH_take (i := 5) (v := .pointer (some ⟨g, 0, none⟩)) rfl (by kernel_rfl) (by kernel_rfl) (by kernel_rfl) (fun _ _ _ h => h) (Or.inl ⟨by rfl, ?_⟩) (by assumption) ?_
    · (intro w1 hSw; (try dsimp only at hSw); go_simp)
    simp only [List.getElem_toArray, List.getElem_cons_succ, List.getElem_cons_zero, Act.put, List.setIfInBounds_toArray, List.set_cons_zero, List.set_cons_succ]
    refine wpAnyH_take (i := 6) (v := .pointer (some ⟨g, 0, none⟩)) rfl (by kernel_rfl) (by kernel_rfl) (by kernel_rfl) (fun _ _ _ h => h) (Or.inl ⟨by rfl, ?_⟩) (by assumption) ?_
    · (intro w1 hSw; (try dsimp only at hSw); go_simp)
    simp only [List.getElem_toArray, List.getElem_cons_succ, List.getElem_cons_zero, Act.put, List.setIfInBounds_toArray, List.set_cons_zero, List.set_cons_succ]
    refine wpAnyH_take (i := 7) (v := .pointer (some ⟨g, 0, none⟩)) rfl (by kernel_rfl) (by kernel_rfl) (by kernel_rfl) (fun _ _ _ h => h) (Or.inl ⟨by rfl, ?_⟩) (by assumption) ?_
    · (intro w1 hSw; (try dsimp only at hSw); go_simp)
    simp only [List.getElem_toArray, List.getElem_cons_succ, List.getElem_cons_zero, Act.put, List.setIfInBounds_toArray, List.set_cons_zero, List.set_cons_succ]
    refine wpAnyH_take (i := 8) (v := .int .i64 rm) rfl (by kernel_rfl) (by kernel_rfl) (by kernel_rfl) (fun _ _ _ h => h) (Or.inl ⟨by rfl, ?_⟩) (by assumption) ?_
    · (intro w1 hSw; (try dsimp only at hSw); have h0 := HRo.out _ hSw; go_simp)
    simp only [List.getElem_toArray, List.getElem_cons_succ, List.getElem_cons_zero, Act.put, List.setIfInBounds_toArray, List.set_cons_zero, List.set_cons_succ]
    refine wpAnyH_ready (rs := [1]) (by kernel_rfl) (by simp) ?_
    refine AllReadyH.cons (o := _) rfl (fun K hK => ?_) AllReadyH.nil
    go_simp
    refine HUd.out.mono ?_
    clear HUd
    rintro e w2 ⟨rfl, hb2⟩
    have HB2 : Hid (Below w.heap.size w w2) := HB1.out.drew.trans (hb2.mono HB1.out.drew.size)
    clear hb2
    go_simp
    refine hK.out _ _ ?_ (fun hHeld => ?_)
    · exact HB2.out
    clear hK K
    refine wpAnyH_take (i := 4) (v := .int .i64 ((U : Int) + (BL : Int))) rfl (by kernel_rfl) (by kernel_rfl) (by kernel_rfl) (fun _ _ _ h => h) (Or.inl ⟨by rfl, ?_⟩) (by assumption) ?_
    · (intro w1 hSw; (try dsimp only at hSw); go_simp)
    simp only [List.getElem_toArray, List.getElem_cons_succ, List.getElem_cons_zero, Act.put, List.setIfInBounds_toArray, List.set_cons_zero, List.set_cons_succ]
    refine wpAnyH_take (i := 9) (v := .bool (decide (rm < (U : Int) + (BL : Int)))) rfl (by kernel_rfl) (by kernel_rfl) (by kernel_rfl) (fun _ _ _ h => h) (Or.inl ⟨by rfl, ?_⟩) (by assumption) ?_
    · (intro w1 hSw; (try dsimp only at hSw); go_simp)
    simp only [List.getElem_toArray, List.getElem_cons_succ, List.getElem_cons_zero, Act.put, List.setIfInBounds_toArray, List.set_cons_zero, List.set_cons_succ]
    refine wpAnyH_done (by kernel_rfl) ?_ _
    refine NoPanic.normal ?_
    clear hHeld
    by_cases h2 : rm < (U : Int) + (BL : Int)
    · have HRz : Hid (R = (81, s)) := by unfold Hid; rw [HRq.out, if_pos (by omega)]
      have hdt : decide (rm < (U : Int) + (BL : Int)) = true := decide_eq_true h2
      clear HRq
      go_wp2_with fail
      go_ret
      rw [HRz.out]
      exact ⟨rfl, ⟨⟨_, _, _, _, _, _, _, _, _, (HR.out.below HB2.out).wider (fun _ q => .inl q) (Grw.lt HLt.out HB2.out.size)⟩, onl_of_below HB2.out⟩⟩
    have hdf : decide (rm < (U : Int) + (BL : Int)) = false := decide_eq_false h2
    have HRy : Hid (R = if E = 0 then (0, S1.setF i ((s.fl i).1 ++ b, (s.fl i).2)) else (E, S1)) := by unfold Hid; rw [HRq.out, if_neg (by omega)]
    clear HRq
    have HP2 : Hid (Calls Try.prog 44 #[.pointer (some ⟨g, 0, none⟩)] w2 _) := HPl.out w2 HB2.out
    go_wp2_with fail
    refine HP2.out.mono ?_
    clear HP2 HPl HUs
    rintro e w3 ⟨rfl, ⟨af3, ee3, hr3⟩, ho3, hz3⟩
    have HR3 : Hid (RfAt w3 O g vf vd vo vp af3 ee3 fb va vb S1) := hr3
    have HO3 : Hid (Onl O w w3) := (onl_of_below HB2.out : Onl O w w2).then ho3
    clear hr3 ho3 hz3 HB1 HRo
    by_cases hE : E = 0
    · subst hE
      have HRz : Hid (R = (0, S1.setF i ((s.fl i).1 ++ b, (s.fl i).2))) := by unfold Hid; rw [HRy.out, if_pos rfl]
      clear HRy
      obtain ⟨q, cap, hvf, hq, c0, d0, d1, hfb, hA, hB⟩ := HR3.out.file HFl.out.2
      obtain ⟨cf, _⟩ := HR3.out.c1
      subst hvf
      rw [HFl.out.1] at hA hB
      obtain ⟨FLN, HFN⟩ : ∃ n, Hid (S1.fls.length = n) := ⟨_, rfl⟩
      have hgl : g < w3.heap.size := HR3.out.lt g HR3.out.og
      have hiF := HFl.out.2
      rw [HFN.out] at cf hiF
      have hiF' : (i : Int) < (FLN : Int) := by omega
      have hbt := HR3.out.fl.hf i _ (fl_at HFl.out.2)
      have hgq : g ≠ q ∧ fb i ≠ g ∧ fb i ≠ q := by
        obtain ⟨cur, hb⟩ := HR3.out.nf.block (k := q) rfl
        exact ⟨ty_ne HR3.out.c hb (by decide), ty_ne hbt HR3.out.c (by decide), ty_ne hbt hb (by decide)⟩
      have hsy := (HW.out.sy i _ (fl_at HIl.out)).1
      have hfr := fl_bd HW.out i
      obtain ⟨ab, cb, hvb, _⟩ := GOwn.form hB
      obtain ⟨VB, HVB⟩ := hid_ex (vb i)
      rw [← HVB.out] at hB hbt d1
      have hvbb : ∀ k, VB.ownBlock = some k → (vb i).ownBlock = some k := fun k hk => by rw [← HVB.out]; exact hk
      rw [← HVB.out] at hvb
      obtain ⟨NB, HNB⟩ : ∃ n, Hid (((s.fl i).1.drop (s.fl i).2).length = n) := ⟨_, rfl⟩
      rw [HNB.out] at hvb
      have hNb : NB ≤ 1048576 := by rw [← HNB.out, List.length_drop]; omega
      subst hvb
      obtain ⟨B0, HB0⟩ := hid_ex (fb i)
      rw [← HB0.out] at c0 d0 d1 hfb hbt hgq
      have hbw : BOwn w3.drew (.slice ab NB cb) ((s.fl i).1.drop (s.fl i).2) := GOwn.keep hB (fun _ _ => rfl)
      have hrd : Reads w3.drew (.slice ba BL bc9) b := HRb.out w3.drew (HO3.out.then (onl_of_below (Below.refl _ _).drew))
      obtain ⟨v4, w4, hrun, hn4, hgr4, hloc4⟩ := run_bapp (w := w3.drew) 31 (.slice ab NB cb) (.slice ba BL bc9) _ b hbw hrd (by rw [HNB.out, HBL.out]; omega)
      have hk4 : ∀ k, k < w3.heap.size → some k ≠ (Value.slice ab NB cb).ownBlock → w4.heap[k]? = w3.heap[k]? := fun k hk hne => hgr4.block k hk hne
      have hu8 : ∀ {k : Nat} {cur : Array Value} {T : TypeId} {fr : Nat × Nat}, w3.heap[k]? = some (.cells cur T fr) → T ≠ 5 → some k ≠ (Value.slice ab NB cb).ownBlock := by
        intro k cur T fr hc hT e
        obtain ⟨c, hc'⟩ := GOwn.block hB e.symm
        rw [hc] at hc'
        simp at hc'
        exact hT hc'.2.1
      obtain ⟨cq, hqb⟩ := HR3.out.nf.block (k := q) rfl
      have HS : Hid (w3.drew.cell? ⟨g, 1, none⟩ = some (.slice (some ⟨q, 0, none⟩) FLN cap) ∧ w3.drew.cell? ⟨q, i, none⟩ = some (.pointer (some ⟨B0, 0, none⟩))) := ⟨cf, c0⟩
      have HPr : Hid (w3.drew.cell? ⟨B0, 1, none⟩ = some (.slice ab NB cb)) := d1
      have hT4 : w4.heap[B0]? = some (.cells #[va i, .slice ab NB cb] 79) := (hk4 B0 hfb (hu8 hbt (by decide))).trans hbt
      have HS4 : Hid (w4.cell? ⟨g, 1, none⟩ = some (.slice (some ⟨q, 0, none⟩) FLN cap) ∧ w4.cell? ⟨q, i, none⟩ = some (.pointer (some ⟨B0, 0, none⟩))) := ⟨(World.cell?_of_block (a := ⟨g, 1, none⟩) (hk4 g hgl (hu8 HR3.out.c (by decide)))).trans cf, (World.cell?_of_block (a := ⟨q, i, none⟩) (hk4 q hq (hu8 hqb (by decide)))).trans c0⟩
      have HT4 : Hid (w4.heap[B0]? = some (.cells #[va i, .slice ab NB cb] 79)) := hT4
      have HP4 : Hid (w4.cell? ⟨B0, 1, none⟩ = some (.slice ab NB cb)) := cell_of hT4 1 _ rfl
      obtain ⟨a4, c4, hv4, _⟩ := GOwn.form hn4
      obtain ⟨NL, HNL⟩ : ∃ n, Hid (((s.fl i).1.drop (s.fl i).2 ++ b).length = n) := ⟨_, rfl⟩
      rw [HNL.out] at hv4
      subst hv4
      have hT5 : (w4.setCell ⟨B0, 1, none⟩ (.slice a4 NL c4)).heap[B0]? = some (.cells #[va i, .slice a4 NL c4] 79) := by
        have := cells_set hT4 1 (.slice a4 NL c4); simpa using this
      have HS5 : Hid ((w4.setCell ⟨B0, 1, none⟩ (.slice a4 NL c4)).cell? ⟨g, 1, none⟩ = some (.slice (some ⟨q, 0, none⟩) FLN cap) ∧ (w4.setCell ⟨B0, 1, none⟩ (.slice a4 NL c4)).cell? ⟨q, i, none⟩ = some (.pointer (some ⟨B0, 0, none⟩))) := ⟨(World.cell?_of_block (a := ⟨g, 1, none⟩) (Go.heap_setCell_other _ _ _ _ hgq.2.1.symm)).trans HS4.out.1, (World.cell?_of_block (a := ⟨q, i, none⟩) (Go.heap_setCell_other _ _ _ _ hgq.2.2.symm)).trans HS4.out.2⟩
      obtain ⟨w5, HW5⟩ := hid_ex (w4.setCell ⟨B0, 1, none⟩ (.slice a4 NL c4))
      have hs5 : w5.heap.size = w4.heap.size := by rw [HW5.out]; simp [World.setCell]
      have hk5 : ∀ k, k ≠ B0 → w5.heap[k]? = w4.heap[k]? := fun k hk => by rw [HW5.out, Go.heap_setCell_other _ _ _ _ hk]
      have hov : ∀ k, (Value.slice ab NB cb).ownBlock = some k → O k := fun k hk => HR3.out.fl.ov i HFl.out.2 k (hvbb k hk)
      have hon : Onl O w3 w5 := by
        have h34 : Onl O w3 w4 := (onl_of_below (Below.refl w3.heap.size w3).drew : Onl O w3 w3.drew).then (Onl.grown hgr4 hov)
        have hOB : O B0 := by rw [HB0.out]; exact HR3.out.fl.ob i HFl.out.2
        rw [HW5.out]
        exact h34.then (Onl.set hOB _)
      have hT5' : w5.heap[B0]? = some (.cells #[va i, .slice a4 NL c4] 79) := by rw [HW5.out]; exact hT5
      have hs34 := hgr4.size
      have hs34' : w3.heap.size ≤ w4.heap.size := hs34
      have HEnd : Hid (RfTo w w5 O g (S1.setF i ((s.fl i).1 ++ b, (s.fl i).2))) := by
        have hr : RfAt w5 (Grw O w w5) g (.slice (some ⟨q, 0, none⟩) S1.fls.length cap) vd vo vp af3 ee3 fb (updF va i (va i)) (updF vb i (.slice a4 NL c4)) (S1.setF i ((s.fl i).1 ++ b, (s.fl i).2)) := by
          refine HR3.out.setI (fun k q => .inl q) (Grw.lt HLt.out (HO3.out.then hon).size) HFl.out.2 (fun k ho hb hv => ?_) ?_ ?_ ?_ (fun k q => .inl q) (fun k q => ?_) (fun k q q2 => ?_)
          · refine (hk5 k (by rw [HB0.out]; exact hb)).trans (hk4 k (HR3.out.lt k ho) (fun e => hv ?_))
            rw [e]; exact (hvbb k e.symm).symm ▸ e.symm ▸ rfl
          · rw [← HB0.out]; exact hT5'
          · simp only
            rw [List.take_append_of_le_length hsy]
            refine GOwn.keep hA fun k hk => ?_
            obtain ⟨cur, hb⟩ := GOwn.block hA hk
            have hkl := (Array.getElem?_eq_some_iff.1 hb).1
            exact (hk5 k (ty_ne hb hbt (by decide))).trans (hk4 k hkl (fun e => (HR3.out.fl.nv i i HFl.out.2 HFl.out.2 k (hvbb k e.symm)).2 hk))
          · simp only
            rw [List.drop_append_of_le_length hsy]
            exact GOwn.keep hn4 fun k hk => hk5 k (fun e => by
              subst e
              obtain ⟨cur, hb⟩ := GOwn.block hn4 hk
              exact ty_ne hb hT4 (by decide) rfl)
          · rcases hloc4 k q with q' | ⟨q1, q2⟩
            · exact .inl (hvbb k q')
            · have h9 : w3.heap.size ≤ k := q1
              exact .inr ⟨h9, .inr ⟨Nat.le_trans HO3.out.size h9, by rw [hs5]; exact q2⟩⟩
          · have hal := HR3.out.lt k (HR3.out.fl.oa i HFl.out.2 k q2)
            rcases hloc4 k q with q' | ⟨q1, _⟩
            · exact (HR3.out.fl.nv i i HFl.out.2 HFl.out.2 k (hvbb k q')).2 q2
            · have h9 : w3.heap.size ≤ k := q1
              omega
        exact ⟨⟨_, _, _, _, _, _, _, _, _, hr⟩, HO3.out.then hon⟩
      clear hT5 hs5 hk5 hov hon hT5' hs34 hs34' hloc4 hgr4 hn4 hk4 hbw hrd hqb hu8 hA hB hbt hvbb hsy hfr hgl hiF cf c0 d0 d1 hq hfb hT4 hgq hNb
      go_wp2_with fail
      refine wp_region_noPanic ?_
      refine wp_region_S 21 (fun w' => w'.cell? ⟨g, 1, none⟩ = some (.slice (some ⟨q, 0, none⟩) FLN cap) ∧ w'.cell? ⟨q, i, none⟩ = some (.pointer (some ⟨B0, 0, none⟩))) (fun w' => w'.cell? ⟨B0, 1, none⟩ = some (.slice ab NB cb)) (by kernel_rfl) ?_ ?_ (fun hHeld => ?_)
      · exact HS.out
      · exact HPr.out
      refine wpAnyS_take (i := 0) (v := .pointer (some ⟨g, 0, none⟩)) _ rfl (by kernel_rfl) (by kernel_rfl) (by kernel_rfl) (by kernel_rfl) (by kernel_rfl) rfl (fun _ _ _ h => h) (Or.inl ⟨by rfl, ?_⟩) hHeld (fun hHeld => ?_)
      · (intro w1 hSw; have hSw := hSw.1; (try dsimp only at hSw); go_simp)
      simp only [List.getElem_toArray, List.getElem_cons_zero, Act.put, List.setIfInBounds_toArray, List.set_cons_zero, List.set_cons_succ]
      refine wpAnyS_take (i := 1) (v := .pointer (some ⟨g, 0, none⟩)) _ rfl (by kernel_rfl) (by kernel_rfl) (by kernel_rfl) (by kernel_rfl) (by kernel_rfl) rfl (fun _ _ _ h => h) (Or.inl ⟨by rfl, ?_⟩) hHeld (fun hHeld => ?_)
      · (intro w1 hSw; have hSw := hSw.1; (try dsimp only at hSw); go_simp)
      simp only [List.getElem_toArray, List.getElem_cons_succ, List.getElem_cons_zero, Act.put, List.setIfInBounds_toArray, List.set_cons_zero, List.set_cons_succ]
      refine wpAnyS_take (i := 2) (v := .pointer (some ⟨g, 1, none⟩)) _ rfl (by kernel_rfl) (by kernel_rfl) (by kernel_rfl) (by kernel_rfl) (by kernel_rfl) rfl (fun _ _ _ h => h) (Or.inl ⟨by rfl, ?_⟩) hHeld (fun hHeld => ?_)
      · (intro w1 hSw; have hSw := hSw.1; (try dsimp only at hSw); go_simp)
      simp only [List.getElem_toArray, List.getElem_cons_succ, List.getElem_cons_zero, Act.put, List.setIfInBounds_toArray, List.set_cons_zero, List.set_cons_succ]
      refine wpAnyS_take (i := 3) (v := .slice (some ⟨q, 0, none⟩) FLN cap) _ rfl (by kernel_rfl) (by kernel_rfl) (by kernel_rfl) (by kernel_rfl) (by kernel_rfl) rfl (fun _ _ _ h => h) (Or.inl ⟨by rfl, ?_⟩) hHeld (fun hHeld => ?_)
      · (intro w1 hSw; have hSw := hSw.1; (try dsimp only at hSw); go_simp)
      simp only [List.getElem_toArray, List.getElem_cons_succ, List.getElem_cons_zero, Act.put, List.setIfInBounds_toArray, List.set_cons_zero, List.set_cons_succ]
      refine wpAnyS_take (i := 4) (v := .int .i64 (i : Int)) _ rfl (by kernel_rfl) (by kernel_rfl) (by kernel_rfl) (by kernel_rfl) (by kernel_rfl) rfl (fun _ _ _ h => h) (Or.inl ⟨by rfl, ?_⟩) hHeld (fun hHeld => ?_)
      · (intro w1 hSw; have hSw := hSw.1; (try dsimp only at hSw); go_simp)
      simp only [List.getElem_toArray, List.getElem_cons_succ, List.getElem_cons_zero, Act.put, List.setIfInBounds_toArray, List.set_cons_zero, List.set_cons_succ]
      refine wpAnyS_take (i := 5) (v := .pointer (some ⟨q, i, none⟩)) _ rfl (by kernel_rfl) (by kernel_rfl) (by kernel_rfl) (by kernel_rfl) (by kernel_rfl) rfl (fun _ _ _ h => h) (Or.inl ⟨by rfl, ?_⟩) hHeld (fun hHeld => ?_)
      · (intro w1 hSw; have hSw := hSw.1; (try dsimp only at hSw); go_simp)
      simp only [List.getElem_toArray, List.getElem_cons_succ, List.getElem_cons_zero, Act.put, List.setIfInBounds_toArray, List.set_cons_zero, List.set_cons_succ]
      refine wpAnyS_take (i := 6) (v := .pointer (some ⟨B0, 0, none⟩)) _ rfl (by kernel_rfl) (by kernel_rfl) (by kernel_rfl) (by kernel_rfl) (by kernel_rfl) rfl (fun _ _ _ h => h) (Or.inl ⟨by rfl, ?_⟩) hHeld (fun hHeld => ?_)
      · (intro w1 hSw; have hSw := hSw.1; (try dsimp only at hSw); go_simp)
      simp only [List.getElem_toArray, List.getElem_cons_succ, List.getElem_cons_zero, Act.put, List.setIfInBounds_toArray, List.set_cons_zero, List.set_cons_succ]
      refine wpAnyS_take (i := 7) (v := .pointer (some ⟨g, 0, none⟩)) _ rfl (by kernel_rfl) (by kernel_rfl) (by kernel_rfl) (by kernel_rfl) (by kernel_rfl) rfl (fun _ _ _ h => h) (Or.inl ⟨by rfl, ?_⟩) hHeld (fun hHeld => ?_)
      · (intro w1 hSw; have hSw := hSw.1; (try dsimp only at hSw); go_simp)
      simp only [List.getElem_toArray, List.getElem_cons_succ, List.getElem_cons_zero, Act.put, List.setIfInBounds_toArray, List.set_cons_zero, List.set_cons_succ]
      refine wpAnyS_take (i := 8) (v := .pointer (some ⟨g, 0, none⟩)) _ rfl (by kernel_rfl) (by kernel_rfl) (by kernel_rfl) (by kernel_rfl) (by kernel_rfl) rfl (fun _ _ _ h => h) (Or.inl ⟨by rfl, ?_⟩) hHeld (fun hHeld => ?_)
      · (intro w1 hSw; have hSw := hSw.1; (try dsimp only at hSw); go_simp)
      simp only [List.getElem_toArray, List.getElem_cons_succ, List.getElem_cons_zero, Act.put, List.setIfInBounds_toArray, List.set_cons_zero, List.set_cons_succ]
      refine wpAnyS_take (i := 9) (v := .pointer (some ⟨g, 1, none⟩)) _ rfl (by kernel_rfl) (by kernel_rfl) (by kernel_rfl) (by kernel_rfl) (by kernel_rfl) rfl (fun _ _ _ h => h) (Or.inl ⟨by rfl, ?_⟩) hHeld (fun hHeld => ?_)
      · (intro w1 hSw; have hSw := hSw.1; (try dsimp only at hSw); go_simp)
      simp only [List.getElem_toArray, List.getElem_cons_succ, List.getElem_cons_zero, Act.put, List.setIfInBounds_toArray, List.set_cons_zero, List.set_cons_succ]
      refine wpAnyS_take (i := 10) (v := .slice (some ⟨q, 0, none⟩) FLN cap) _ rfl (by kernel_rfl) (by kernel_rfl) (by kernel_rfl) (by kernel_rfl) (by kernel_rfl) rfl (fun _ _ _ h => h) (Or.inl ⟨by rfl, ?_⟩) hHeld (fun hHeld => ?_)
      · (intro w1 hSw; have hSw := hSw.1; (try dsimp only at hSw); go_simp)
      simp only [List.getElem_toArray, List.getElem_cons_succ, List.getElem_cons_zero, Act.put, List.setIfInBounds_toArray, List.set_cons_zero, List.set_cons_succ]
      refine wpAnyS_take (i := 11) (v := .int .i64 (i : Int)) _ rfl (by kernel_rfl) (by kernel_rfl) (by kernel_rfl) (by kernel_rfl) (by kernel_rfl) rfl (fun _ _ _ h => h) (Or.inl ⟨by rfl, ?_⟩) hHeld (fun hHeld => ?_)
      · (intro w1 hSw; have hSw := hSw.1; (try dsimp only at hSw); go_simp)
      simp only [List.getElem_toArray, List.getElem_cons_succ, List.getElem_cons_zero, Act.put, List.setIfInBounds_toArray, List.set_cons_zero, List.set_cons_succ]
      refine wpAnyS_take (i := 12) (v := .pointer (some ⟨q, i, none⟩)) _ rfl (by kernel_rfl) (by kernel_rfl) (by kernel_rfl) (by kernel_rfl) (by kernel_rfl) rfl (fun _ _ _ h => h) (Or.inl ⟨by rfl, ?_⟩) hHeld (fun hHeld => ?_)
      · (intro w1 hSw; have hSw := hSw.1; (try dsimp only at hSw); go_simp)
      simp only [List.getElem_toArray, List.getElem_cons_succ, List.getElem_cons_zero, Act.put, List.setIfInBounds_toArray, List.set_cons_zero, List.set_cons_succ]
      refine wpAnyS_take (i := 13) (v := .pointer (some ⟨B0, 0, none⟩)) _ rfl (by kernel_rfl) (by kernel_rfl) (by kernel_rfl) (by kernel_rfl) (by kernel_rfl) rfl (fun _ _ _ h => h) (Or.inl ⟨by rfl, ?_⟩) hHeld (fun hHeld => ?_)
      · (intro w1 hSw; have hSw := hSw.1; (try dsimp only at hSw); go_simp)
      simp only [List.getElem_toArray, List.getElem_cons_succ, List.getElem_cons_zero, Act.put, List.setIfInBounds_toArray, List.set_cons_zero, List.set_cons_succ]
      refine wpAnyS_take (i := 14) (v := .pointer (some ⟨B0, 0, none⟩)) _ rfl (by kernel_rfl) (by kernel_rfl) (by kernel_rfl) (by kernel_rfl) (by kernel_rfl) rfl (fun _ _ _ h => h) (Or.inl ⟨by rfl, ?_⟩) hHeld (fun hHeld => ?_)
      · (intro w1 hSw; have hSw := hSw.1; (try dsimp only at hSw); go_simp)
      simp only [List.getElem_toArray, List.getElem_cons_succ, List.getElem_cons_zero, Act.put, List.setIfInBounds_toArray, List.set_cons_zero, List.set_cons_succ]
      refine wpAnyS_take (i := 15) (v := .pointer (some ⟨B0, 1, none⟩)) _ rfl (by kernel_rfl) (by kernel_rfl) (by kernel_rfl) (by kernel_rfl) (by kernel_rfl) rfl (fun _ _ _ h => h) (Or.inl ⟨by rfl, ?_⟩) hHeld (fun hHeld => ?_)
      · (intro w1 hSw; have hSw := hSw.1; (try dsimp only at hSw); go_simp)
      simp only [List.getElem_toArray, List.getElem_cons_succ, List.getElem_cons_zero, Act.put, List.setIfInBounds_toArray, List.set_cons_zero, List.set_cons_succ]
      refine wpAnyS_take (i := 16) (v := .slice ab NB cb) true rfl (by kernel_rfl) (by kernel_rfl) (by kernel_rfl) (by kernel_rfl) (by kernel_rfl) (by kernel_rfl) (fun _ _ _ h => h) (Or.inl ⟨by rfl, ?_⟩) hHeld (fun hHeld => ?_)
      · (intro w1 hSw; have hSw2 := hSw.2 rfl; have hSw := hSw.1; (try dsimp only at hSw hSw2); go_simp)
      simp only [List.getElem_toArray, List.getElem_cons_succ, List.getElem_cons_zero, Act.put, List.setIfInBounds_toArray, List.set_cons_zero, List.set_cons_succ]
      refine wpAnyS_take (i := 17) (v := .slice ba BL bc9) _ rfl (by kernel_rfl) (by kernel_rfl) (by kernel_rfl) (by kernel_rfl) (by kernel_rfl) rfl (fun _ _ _ h => h) (Or.inl ⟨by rfl, ?_⟩) hHeld (fun hHeld => ?_)
      · (intro w1 hSw; have hSw := hSw.1; (try dsimp only at hSw); go_simp)
      simp only [List.getElem_toArray, List.getElem_cons_succ, List.getElem_cons_zero, Act.put, List.setIfInBounds_toArray, List.set_cons_zero, List.set_cons_succ]
      refine wpAnyS_ready (i := 18) (by kernel_rfl) rfl (fun K hK => ?_)
      refine wp_app_runG _ _ _ _ (by rfl) (by rfl) _ _ _ (by rfl) (by rfl) hrun ?_
      simp only [List.getElem_toArray, List.getElem_cons_succ, List.getElem_cons_zero, Act.put, List.setIfInBounds_toArray, List.set_cons_zero, List.set_cons_succ]
      refine hK.out _ _ ⟨?_, fun _ => ?_⟩ (fun hHeld => ?_)
      · exact HS4.out
      · exact HP4.out
      clear hK K
      refine wpAnyS_take (i := 19) (v := .pointer (some ⟨B0, 0, none⟩)) _ rfl (by kernel_rfl) (by kernel_rfl) (by kernel_rfl) (by kernel_rfl) (by kernel_rfl) rfl (fun _ _ _ h => h) (Or.inl ⟨by rfl, ?_⟩) hHeld (fun hHeld => ?_)
      · (intro w1 hSw; have hSw := hSw.1; (try dsimp only at hSw); go_simp)
      simp only [List.getElem_toArray, List.getElem_cons_succ, List.getElem_cons_zero, Act.put, List.setIfInBounds_toArray, List.set_cons_zero, List.set_cons_succ]
      refine wpAnyS_take (i := 20) (v := .pointer (some ⟨B0, 1, none⟩)) _ rfl (by kernel_rfl) (by kernel_rfl) (by kernel_rfl) (by kernel_rfl) (by kernel_rfl) rfl (fun _ _ _ h => h) (Or.inl ⟨by rfl, ?_⟩) hHeld (fun hHeld => ?_)
      · (intro w1 hSw; have hSw := hSw.1; (try dsimp only at hSw); go_simp)
      simp only [List.getElem_toArray, List.getElem_cons_succ, List.getElem_cons_zero, Act.put, List.setIfInBounds_toArray, List.set_cons_zero, List.set_cons_succ]
      have e1 := HP4.out
      have f1 : w4.frozen? ⟨B0, 1, none⟩ = false := by simp [World.frozen?, HT4.out]
      refine wpAnyS_ready (i := 21) (by kernel_rfl) rfl (fun K hK => ?_)
      go_simp
      refine hK.out _ _ ⟨?_, fun hno => absurd hno (by decide)⟩ (fun hHeld => ?_)
      · exact HS5.out
      clear hK K
      refine wpAnyS_done (by kernel_rfl) ?_ _
      refine NoPanic.normal ?_
      rw [← HW5.out] at hHeld ⊢
      clear HW5 hHeld hrun e1 f1
      go_wp2_with fail
      go_ret
      rw [HRz.out]
      exact ⟨rfl, HEnd.out⟩
    · have hEb : (E == 0) = false := by simpa using hE
      have HRz : Hid (R = (E, S1)) := by unfold Hid; rw [HRy.out, if_neg hE]
      clear HRy
      go_wp2_with fail
      go_ret
      rw [HRz.out]
      exact ⟨rfl, ⟨⟨_, _, _, _, _, _, _, _, _, HR3.out.wider (fun _ q => .inl q) (Grw.lt HLt.out HO3.out.size)⟩, HO3.out⟩⟩
end Go.Proofs.Ytijablmejjepaaa
