/- The document's file system: Create's walk. -/
import Derived.Test.YtijablmejjepaaaRG12
import Derived.Test.YtijablmejjepaaaSF9
namespace Go.Proofs.Ytijablmejjepaaa
open Go.RowKit Go.Maps Go.Sort

set_option maxRecDepth 100000 in
set_option maxHeartbeats 4000000 in
theorem refCreate_any {w : World} {O : Nat → Prop} {g : Nat} {vf vd vo vp : Value} {af ee : Int} {fb : Nat → Nat} {va vb : Nat → Value} {s : SfS} (h : RfAt w O g vf vd vo vp af ee fb va vb s) (hw : SfWf s) (n : List UInt8) (hm : n.length ≤ 100000) (hpn : s.pend.length < 1000000) (hfn : s.fls.length < 900000) :
    Calls Try.prog 21 #[.pointer (some ⟨g, 0, none⟩), .string ⟨n.toArray⟩] w fun e w' => e = .returned (.int .i64 (sfCreate s n).1) ∧ RfTo w w' O g (sfCreate s n).2 := by
  have hdl := dir_len hw
  have HNm : Hid (Calls Try.prog 41 #[.string ⟨n.toArray⟩] w _) := refIsName_any n (by omega) w
  have HFn : Hid (Calls Try.prog 42 #[.pointer (some ⟨g, 0, none⟩), .string ⟨n.toArray⟩] w _) := refFind_any h.hd h.c1.2.1 n (by omega)
  have HR : Hid (RfAt w O g vf vd vo vp af ee fb va vb s) := h
  have HRm : Hid (sfCreate s n = if sfName n = false then (1, s) else if (sfLook n s.dir).isSome = true then (80, s) else if 256 ≤ s.dir.length then (81, s) else sfChange (sfNew s) ⟨[], n, some s.fls.length⟩) := rfl
  have HLt : Hid (∀ k, O k → k < w.heap.size) := h.lt
  have HPn : Hid (s.pend.length < 1000000) := hpn
  have HW : Hid (SfWf s) := hw
  obtain ⟨R, HRe⟩ := hid_ex (sfCreate s n)
  rw [← HRe.out] at HRm ⊢
  obtain ⟨b, Hb⟩ := hid_ex (sfName n)
  rw [← Hb.out] at HRm HNm
  obtain ⟨c1, c2, c3, c4, c0⟩ := h.c1
  obtain ⟨da, dc, hvd, _⟩ := GOwn.form h.hd
  obtain ⟨fa, fc, hvf, _⟩ := GOwn.form h.nf
  obtain ⟨DL, HDL⟩ : ∃ n, Hid (s.dir.length = n) := ⟨_, rfl⟩
  obtain ⟨FN, HFN⟩ : ∃ n, Hid (s.fls.length = n) := ⟨_, rfl⟩
  rw [HDL.out] at hvd HRm
  rw [HFN.out] at hvf HRm hfn
  subst hvd
  subst hvf
  have hnf := h.nf
  rw [HFN.out] at hnf
  have HNf : Hid (GOwn w 77 1 (.slice fa FN fc) FN (flP fb FN)) := hnf
  have hgl : g < w.heap.size := h.lt g h.og
  have HC : Hid (w.cell? ⟨g, 1, none⟩ = some (.slice fa FN fc)) := c1
  have f1 : w.frozen? ⟨g, 1, none⟩ = false := h.c.fz 1
  have HGl : Hid (g < w.heap.size ∧ O g) := ⟨hgl, h.og⟩
  clear h hw hdl HRe Hb hnf hgl c3 c4 c0 hpn
  cases b with
  | false =>
    have HRq : Hid (R = (1, s)) := by unfold Hid; rw [HRm.out, if_pos rfl]
    clear HRm HFn
    go_enter Try.func21, Try.ntmps21
    go_wp2_with fail
    refine HNm.out.mono ?_
    rintro e w1 ⟨rfl, hw1⟩
    subst w1
    go_wp2_with fail
    go_ret
    rw [HRq.out]
    exact ⟨rfl, HR.out.to⟩
  | true =>
    have HRq : Hid (R = if (sfLook n s.dir).isSome = true then (80, s) else if 256 ≤ DL then (81, s) else sfChange (sfNew s) ⟨[], n, some FN⟩) := by unfold Hid; rw [HRm.out, if_neg (by decide)]
    clear HRm
    cases hl : sfLook n s.dir with
    | some i =>
      rw [hl] at HFn HRq
      have HRz : Hid (R = (80, s)) := by unfold Hid; rw [HRq.out]; rfl
      simp only [rfN] at HFn
      have hnn : (0 : Int) ≤ (i : Int) := by omega
      clear hl HRq
      go_enter Try.func21, Try.ntmps21
      go_wp2_with fail
      refine HNm.out.mono ?_
      rintro e w1 ⟨rfl, hw1⟩
      subst w1
      go_wp2_with fail
      refine HFn.out.mono ?_
      rintro e w1 ⟨rfl, hw1⟩
      subst w1
      go_wp2_with fail
      go_ret
      rw [HRz.out]
      exact ⟨rfl, HR.out.to⟩
    | none =>
      rw [hl] at HFn HRq
      have HRy : Hid (R = if 256 ≤ DL then (81, s) else sfChange (sfNew s) ⟨[], n, some FN⟩) := by unfold Hid; rw [HRq.out]; rfl
      simp only [rfN] at HFn
      have hneg : ¬ (0 : Int) ≤ (-1 : Int) := by omega
      clear hl HRq
      by_cases h256 : 256 ≤ DL
      · have h256' : (256 : Int) ≤ (DL : Int) := by omega
        have HRz : Hid (R = (81, s)) := by unfold Hid; rw [HRy.out, if_pos h256]
        clear HRy
        go_enter Try.func21, Try.ntmps21
        go_wp2_with fail
        refine HNm.out.mono ?_
        rintro e w1 ⟨rfl, hw1⟩
        subst w1
        go_wp2_with fail
        refine HFn.out.mono ?_
        rintro e w1 ⟨rfl, hw1⟩
        subst w1
        go_wp2_with fail
        go_ret
        rw [HRz.out]
        exact ⟨rfl, HR.out.to⟩
      · have h256' : ¬ (256 : Int) ≤ (DL : Int) := by omega
        have HRz : Hid (R = sfChange (sfNew s) ⟨[], n, some FN⟩) := by unfold Hid; rw [HRy.out, if_neg h256]
        clear HRy
        -- the new file's block, and the row of one that is appended
        obtain ⟨w1, HW1⟩ := hid_ex (w.alloc (.cells #[.slice none 0 0, .slice none 0 0] 79))
        obtain ⟨w2, HW2⟩ := hid_ex (w1.alloc (.cells #[.pointer (some ⟨w.heap.size, 0, none⟩)] 77))
        have hs1 : w1.heap.size = w.heap.size + 1 := by rw [HW1.out]; simp
        have hs2 : w2.heap.size = w.heap.size + 2 := by rw [HW2.out]; simp [hs1]
        have hb1 : Below w.heap.size w w1 := by rw [HW1.out]; exact (Below.refl _ _).alloc (Nat.le_refl _) _
        have hb12 : Below w1.heap.size w1 w2 := by rw [HW2.out]; exact (Below.refl _ _).alloc (Nat.le_refl _) _
        have hb2 : Below w.heap.size w w2 := hb1.trans (hb12.mono hb1.size)
        have hx1 : w1.heap[w.heap.size]? = some (.cells #[.slice none 0 0, .slice none 0 0] 79) := by rw [HW1.out]; exact heap_alloc_new _ _
        have hx2 : w2.heap[w.heap.size]? = some (.cells #[.slice none 0 0, .slice none 0 0] 79) := (hb12.block _ (by omega)).trans hx1
        have hy2 : w2.heap[w1.heap.size]? = some (.cells #[.pointer (some ⟨w.heap.size, 0, none⟩)] 77) := by rw [HW2.out]; exact heap_alloc_new _ _
        have hnf2 : GOwn w2 77 1 (.slice fa FN fc) FN (flP fb FN) := HNf.out.keep fun k hk => by
          obtain ⟨cur, hb⟩ := HNf.out.block hk
          exact hb2.block k (Array.getElem?_eq_some_iff.1 hb).1
        obtain ⟨v3, w3, hrun, hn3, hgr3, hloc3⟩ := run_appFp (w := w2) 44 (.slice fa FN fc) (.slice (some ⟨w1.heap.size, 0, none⟩) 1 1) FN (flP fb FN) w.heap.size hnf2 (by
          refine ⟨rfl, .inr ⟨_, _, rfl, fun k u hk => ?_⟩⟩
          match k, hk with
          | 0, hk => simp at hk; subst hk; exact cell_of hy2 0 _ rfl) (by omega)
        have hof : ∀ k, (Value.slice fa FN fc).ownBlock = some k → O k := HR.out.of
        have hk23 : ∀ k, k < w2.heap.size → some k ≠ (Value.slice fa FN fc).ownBlock → w3.heap[k]? = w2.heap[k]? := fun k hk hne => hgr3.block k hk hne
        have hk3 : ∀ k, k < w.heap.size → some k ≠ (Value.slice fa FN fc).ownBlock → w3.heap[k]? = w.heap[k]? := fun k hk hne => (hk23 k (by omega) hne).trans (hb2.block k hk)
        have hgf : some g ≠ (Value.slice fa FN fc).ownBlock := fun e => by
          obtain ⟨cur, hb⟩ := HNf.out.block e.symm
          exact ty_ne hb HR.out.c (by decide) rfl
        have hc3 : RfC w3 g s.room (.slice fa FN fc) (.slice da DL dc) vo vp af ee := (hk3 g HGl.out.1 hgf).trans HR.out.c
        have hs23 := hgr3.size
        obtain ⟨a3, c3, hv3, _⟩ := GOwn.form hn3
        subst hv3
        obtain ⟨w4, HW4⟩ := hid_ex (w3.setCell ⟨g, 1, none⟩ (.slice a3 (FN + 1) c3))
        have hc4 : RfC w4 g s.room (.slice a3 (FN + 1) c3) (.slice da DL dc) vo vp af ee := by rw [HW4.out]; exact hc3.s1 _
        have hs4 : w4.heap.size = w3.heap.size := by rw [HW4.out]; simp [World.setCell]
        have hk4 : ∀ k, k ≠ g → w4.heap[k]? = w3.heap[k]? := fun k hk => by rw [HW4.out, Go.heap_setCell_other _ _ _ _ hk]
        have hon4 : Onl O w w4 := by
          have h13 : Onl O w w3 := (onl_of_below hb2 : Onl O w w2).then (Onl.grown hgr3 hof)
          rw [HW4.out]
          exact h13.trans (Onl.set (Or.inl HGl.out.2) _)
        have HO4 : Hid (Onl O w w4) := hon4
        have hR4 : RfAt w4 (Grw O w w4) g (.slice a3 (FN + 1) c3) (.slice da DL dc) vo vp af ee (updF fb s.fls.length w.heap.size) (updF va s.fls.length (.slice none 0 0)) (updF vb s.fls.length (.slice none 0 0)) (sfNew s) := by
          refine HR.out.addF (fun k q => .inl q) (Grw.lt HLt.out hon4.size) (fun k ho hg hp => (hk4 k hg).trans (hk3 k (HLt.out k ho) hp)) (b := w.heap.size) ?_ (Nat.le_refl _) (.inr (by omega)) hc4 ?_ (fun k hk => ?_)
          · have h1 := HGl.out.1
            refine (hk4 _ (by omega)).trans ((hk23 _ (by omega) (fun e => ?_)).trans hx2)
            have := HLt.out _ (hof _ e.symm)
            omega
          · rw [HFN.out]
            exact GOwn.keep hn3 fun k hk => hk4 k (fun e => by
              subst e
              obtain ⟨cur, hb⟩ := GOwn.block hn3 hk
              exact ty_ne hb hc3 (by decide) rfl)
          · rcases hloc3 k hk with q | q
            · exact .inl (hof k q)
            · exact .inr (by omega)
        have HC4 : Hid (RfC w4 g s.room (.slice a3 (FN + 1) c3) (.slice da DL dc) vo vp af ee) := hc4
        have hact := refAct_any hR4 (wf_new HW.out) ⟨[], n, some s.fls.length⟩ (by exact HPn.out)
        rw [HFN.out] at hact
        have HAct : Hid (Calls Try.prog 43 #[.pointer (some ⟨g, 0, none⟩), .agg #[.string ⟨#[]⟩, .string ⟨n.toArray⟩, .int .i64 (FN : Int)]] w4 _) := hact
        have cg3 := cell_of hc3 1 _ rfl
        have fg3 : w3.frozen? ⟨g, 1, none⟩ = false := hc3.fz 1
        have cg4 := cell_of HC4.out 1 _ rfl
        rw [HW2.out, hs1, HW1.out] at hrun
        clear hs1 hs2 hb1 hb12 hb2 hx1 hx2 hy2 hnf2 hn3 hgr3 hloc3 hof hk23 hk3 hgf hc3 hs23 hs4 hk4 hon4 hR4 hc4 hact HNf HW1 HW2
        go_enter Try.func21, Try.ntmps21
        go_wp2_with fail
        refine HNm.out.mono ?_
        rintro e w1 ⟨rfl, hw1⟩
        subst w1
        go_wp2_with fail
        refine HFn.out.mono ?_
        rintro e w1 ⟨rfl, hw1⟩
        subst w1
        go_wp2_with (at_builtin; refine wpList_app_runG rfl _ _ 44 44 rfl rfl _ _ _ rfl rfl hrun ?_; clear hrun)
        rw [← HW4.out]
        refine HAct.out.mono ?_
        clear HAct HW4 cg3 fg3 cg4
        rintro e w' ⟨rfl, ⟨vd', vp', af', ee', hr⟩, ho⟩
        have HR' : Hid (RfTo w w' O g (sfChange (sfNew s) ⟨[], n, some FN⟩).2) := RfTo.from HO4.out ⟨⟨_, _, _, _, _, _, _, _, _, hr⟩, ho⟩
        obtain ⟨Rc, HRc⟩ := hid_ex (sfChange (sfNew s) ⟨[], n, some FN⟩)
        rw [← HRc.out] at HR' HRz ⊢
        clear hr ho HRc
        go_wp2_with fail
        go_ret
        rw [HRz.out]
        exact ⟨rfl, HR'.out⟩
end Go.Proofs.Ytijablmejjepaaa
