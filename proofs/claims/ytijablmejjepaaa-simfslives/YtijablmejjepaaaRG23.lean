/- law11: SimfsLives: the file system and the document's side by side. -/
import Derived.Test.YtijablmejjepaaaRG22
import Derived.Test.YtijablmejjepaaaSFT
import Derived.Test.YtijablmejjepaaaRG6
import Derived.Test.YtijablmejjepaaaSFU
namespace Go.Proofs.Ytijablmejjepaaa
open Go.RowKit Go.Maps Go.Sort

theorem sfChange_fls (s : SfS) (a : SfA) : (sfChange s a).2.fls = s.fls := by
  unfold sfChange
  split
  · exact sfPlan_fls s
  · exact sfPlan_fls s
theorem sfCall_fls (s : SfS) (o : SfO) : (sfCall s o).2.fls.length ≤ s.fls.length + 1 := by
  unfold sfCall
  split
  · unfold sfCreate
    split
    · simp
    · split
      · simp
      · split
        · simp
        · rw [sfChange_fls]; simp [sfNew]
  · split
    · unfold sfAppend
      split
      · simp
      · split
        · simp
        · split
          · simp
          · split
            · show ((sfPlan s).2.fls.set _ _).length ≤ _; rw [List.length_set, sfPlan_fls]; omega
            · rw [sfPlan_fls]; omega
    · split
      · unfold sfSync
        split
        · simp
        · split
          · show ((sfPlan s).2.fls.set _ _).length ≤ _; rw [List.length_set, sfPlan_fls]; omega
          · rw [sfPlan_fls]; omega
      · split
        · unfold sfRename
          split
          · simp
          · split
            · simp
            · rw [sfChange_fls]; omega
        · split
          · unfold sfRemove
            split
            · simp
            · rw [sfChange_fls]; omega
          · split
            · unfold sfSyncDir
              split
              · show (sfPlan s).2.fls.length ≤ _; rw [sfPlan_fls]; omega
              · rw [sfPlan_fls]; omega
            · split
              · show (sfCuts _ _ _).length ≤ _; rw [sfCuts_len]; show s.fls.length ≤ _; omega
              · split
                · unfold sfFail
                  split
                  · simp
                  · split <;> simp
                · simp
/-- A file system and one of the document's, made since base, with no block in common. -/
def Duo (w : World) (base : Nat) (p q : Value) (s t : SfS) : Prop := base ≤ w.heap.size ∧ ∃ O1 O2 : Nat → Prop, Fs w O1 p s ∧ Rf w O2 q t ∧ (∀ k, O1 k → base ≤ k) ∧ (∀ k, O2 k → base ≤ k) ∧ ∀ k, O1 k → ¬ O2 k
theorem Duo.below {w w' : World} {base : Nat} {p q : Value} {s t : SfS} (h : Duo w base p q s t) (hb : Below w.heap.size w w') : Duo w' base p q s t := by
  obtain ⟨h0, O1, O2, h1, h2, h3, h4, h5⟩ := h
  exact ⟨Nat.le_trans h0 hb.size, O1, O2, h1.below hb, h2.below hb, h3, h4, h5⟩
theorem Duo.call {W w : World} {p q : Value} {s t : SfS} (h : Duo w W.heap.size p q s t) (hB : Below W.heap.size W w) (o : SfO) (ho : SfOk W o) (hbl : o.b.length ≤ 140737488355328) (hpn : s.pend.length < 1099511627776) :
    Calls Try.prog 8 #[p, .agg (o7 o).toArray] w fun e w' => e = .returned (.int .i64 (sfCall s o).1) ∧ Duo w' W.heap.size p q (sfCall s o).2 t ∧ Below W.heap.size W w' := by
  obtain ⟨h0, O1, O2, h1, h2, h3, h4, h5⟩ := h
  refine (call_any h1 o (fun w' q => ho.below (hB.trans (q.below h0 h3))) hbl hpn).mono ?_
  rintro e w' ⟨he, hf, hon⟩
  refine ⟨he, ⟨Nat.le_trans h0 hon.size, Grw O1 w w', O2, hf, h2.other hon (fun k a b => h5 k b a), fun k z => ?_, h4, fun k z1 z2 => ?_⟩, hB.trans (hon.below h0 h3)⟩
  · rcases z with z | z
    · exact h3 k z
    · omega
  · rcases z1 with z1 | z1
    · exact h5 k z1 z2
    · have := h2.lt k z2; omega
theorem Duo.model {W w : World} {p q : Value} {s t : SfS} (h : Duo w W.heap.size p q s t) (hB : Below W.heap.size W w) (o : SfO) (ho : SfOk W o) (hlg : sfLong o = false) (hpn : t.pend.length < 1000000) (hfn : t.fls.length < 900000) :
    Calls Try.prog 9 #[q, .agg (o7 o).toArray] w fun e w' => e = .returned (.int .i64 (sfCall t o).1) ∧ Duo w' W.heap.size p q s (sfCall t o).2 ∧ Below W.heap.size W w' := by
  obtain ⟨h0, O1, O2, h1, h2, h3, h4, h5⟩ := h
  refine (model_any h2 o (fun w' q => ho.below (hB.trans (q.below h0 h4))) hlg hpn hfn).mono ?_
  rintro e w' ⟨he, hf, hon⟩
  refine ⟨he, ⟨Nat.le_trans h0 hon.size, O1, Grw O2 w w', h1.other hon h5, hf, h3, fun k z => ?_, fun k z1 z2 => ?_⟩, hB.trans (hon.below h0 h4)⟩
  · rcases z with z | z
    · exact h4 k z
    · omega
  · rcases z2 with z2 | z2
    · exact h5 k z1 z2
    · have := h1.lt k z1; omega
theorem Duo.alike {w : World} {base : Nat} {p q : Value} {s : SfS} (h : Duo w base p q s s) : Calls Try.prog 10 #[p, q] w fun e w' => e = .returned (.bool true) ∧ Below w.heap.size w w' := by
  obtain ⟨h0, O1, O2, h1, h2, h3, h4, h5⟩ := h
  exact alike_any h1 h2
theorem duo_new {W w1 w2 : World} {p q : Value} {s : SfS} (h1 : Fs w1 (fun k => W.heap.size ≤ k ∧ k < w1.heap.size) p s) (hb1 : Below W.heap.size W w1) (h2 : Rf w2 (fun k => w1.heap.size ≤ k ∧ k < w2.heap.size) q s) (hb2 : Below w1.heap.size w1 w2) : Duo w2 W.heap.size p q s s := by
  have := hb1.size
  have := hb2.size
  exact ⟨by omega, _, _, h1.below hb2, h2, fun k z => z.1, fun k z => by omega, fun k z1 z2 => by omega⟩
set_option maxRecDepth 100000 in
set_option maxHeartbeats 8000000 in
theorem lives_walk (r : Int) (ov : Value) (L : List SfO) (W : World) (hr1 : -9223372036854775808 ≤ r) (hr2 : r < 9223372036854775808) (hL : OsR W ov L) :
    Calls Try.prog 3 #[.int .i64 r, ov] W fun e w' => e = .returned (.bool true) ∧ Below W.heap.size W w' := by
  have _ := hr1
  obtain ⟨a, cap, rfl, hll, hcs⟩ := hL
  have hll' : (L.length : Int) ≤ 9223372036854775807 := by simp only [maxLen] at hll; omega
  have HCS := (show Hid (L = [] ∨ ∃ b off, a = some ⟨b, off, none⟩ ∧ b < W.heap.size ∧ ∀ j (hj : j < L.length), (∀ i (hi : i < 7), W.cell? ⟨b, off + (j * 7 + i), none⟩ = some ((o7 L[j])[i]'hi)) ∧ SfOk W L[j]) from hcs)
  clear hcs
  by_cases hr : r < 1
  · clear HCS
    go_enter Try.func3, Try.ntmps3
    go_wp2_with fail
    refine (new_no r _ hr).mono ?_
    rintro e w1 ⟨rfl, hw1⟩
    subst w1
    go_wp2_with fail
    refine (refNew_no r hr _).mono ?_
    rintro e w1 ⟨rfl, hw1⟩
    subst w1
    go_wp2_with fail
    go_loopw [9] (fun i wr => i = .int .i64 0 ∧ Hid (Below W.heap.size W wr)) (fun _ _ => 0)
    case atStart => exact ⟨rfl, Below.refl _ _⟩
    case round =>
      obtain ⟨rfl, HB⟩ := hrel
      by_cases hlt : 0 < L.length
      · have hlt' : (0 : Int) < (L.length : Int) := by omega
        go_wp2_with fail
        refine (alive11_any _).mono ?_
        rintro e w3 ⟨rfl, hb3⟩
        go_wp2_with fail
        go_ret
        exact ⟨rfl, HB.out.trans (hb3.mono HB.out.size)⟩
      · have hlt' : ¬ (0 : Int) < (L.length : Int) := by omega
        go_wp2_with fail
        refine (alive11_any _).mono ?_
        rintro e w3 ⟨rfl, hb3⟩
        go_wp2_with fail
        go_ret
        exact ⟨rfl, HB.out.trans (hb3.mono HB.out.size)⟩
  · have hr' : 1 ≤ r := by omega
    go_enter Try.func3, Try.ntmps3
    go_wp2_with fail
    refine (fs_new r _ hr' hr2).mono ?_
    rintro e w1 ⟨p, rfl, hf1, hb1⟩
    obtain ⟨g, rfl⟩ := hf1.ptr
    have HF1 : Hid (Fs w1 (fun k => W.heap.size ≤ k ∧ k < w1.heap.size) (.pointer (some ⟨g, 0, none⟩)) (sfZ r)) := hf1
    have HB1 : Hid (Below W.heap.size W w1) := hb1
    clear hf1 hb1
    go_wp2_with fail
    refine (rf_new r _ hr' hr2).mono ?_
    rintro e w2 ⟨q, rfl, hf2, hb2⟩
    obtain ⟨g2, rfl⟩ := hf2.ptr
    have HD2 : Hid (Duo w2 W.heap.size (.pointer (some ⟨g, 0, none⟩)) (.pointer (some ⟨g2, 0, none⟩)) (sfZ r) (sfZ r)) := duo_new HF1.out HB1.out hf2 hb2
    have HB2 : Hid (Below W.heap.size W w2) := HB1.out.trans (hb2.mono HB1.out.size)
    clear hf2 hb2 HF1 HB1
    go_wp2_with fail
    go_loopw [9] (fun i wr => ∃ (j : Nat) (S : SfS), i = .int .i64 (j : Int) ∧ j ≤ L.length ∧ j ≤ 60 ∧ Hid (Duo wr W.heap.size (.pointer (some ⟨g, 0, none⟩)) (.pointer (some ⟨g2, 0, none⟩)) S S) ∧ Hid (S.pend.length ≤ j ∧ S.fls.length ≤ j) ∧ Hid (Below W.heap.size W wr)) (fun i _ => 60 - (intOf i).toNat)
    case atStart => exact ⟨0, sfZ r, rfl, by omega, by omega, HD2, ⟨by simp [sfZ], by simp [sfZ]⟩, HB2⟩
    case round =>
      obtain ⟨j, S, rfl, hj, hj60, HD, HP, HB⟩ := hrel
      by_cases hlt : j < L.length
      · have hlt' : (j : Int) < (L.length : Int) := by omega
        by_cases h60 : j < 60
        · have h60' : (j : Int) < 60 := by omega
          rcases HCS.out with hL0 | ⟨b, off, hab, hbl, hcell⟩
          · rw [hL0] at hlt; simp at hlt
          · subst hab
            obtain ⟨hc, hok⟩ := hcell j hlt
            obtain ⟨o, HO⟩ := hid_ex L[j]
            rw [← HO.out] at hc hok
            have hcw : ∀ i (hi : i < 7), wr.cell? ⟨b, off + j * 7 + i, none⟩ = some ((o7 o)[i]'hi) := fun i hi => by
              rw [Nat.add_assoc]; exact (HB.out.cell (p := ⟨b, off + (j * 7 + i), none⟩) hbl).trans (hc i hi)
            have y0 := hcw 0 (by decide)
            have y1 := hcw 1 (by decide)
            have y2 := hcw 2 (by decide)
            have y3 := hcw 3 (by decide)
            have y4 := hcw 4 (by decide)
            have y5 := hcw 5 (by decide)
            have y6 := hcw 6 (by decide)
            rw [Nat.add_zero] at y0
            obtain ⟨ba, bcp, hbv, -⟩ := hok.rb.form
            obtain ⟨ka, kcp, hkv, -⟩ := hok.rk.form
            simp only [o7, List.getElem_cons_zero, List.getElem_cons_succ] at y0 y1 y2 y3 y4 y5 y6
            rw [hbv] at y3
            rw [hkv] at y5
            have HA7 : Hid ((o7 o).toArray = #[.int .i64 o.k, .string ⟨o.nm.toArray⟩, .string ⟨o.to.toArray⟩, .slice ba o.b.length bcp, .int .i64 o.n, .slice ka o.ks.length kcp, .int .i64 o.e]) := by show _ = _; unfold o7; rw [hbv, hkv]
            have HOK : Hid (SfOk W o) := hok
            have HLG : Hid (Calls Try.prog 6 #[.agg #[.int .i64 o.k, .string ⟨o.nm.toArray⟩, .string ⟨o.to.toArray⟩, .slice ba o.b.length bcp, .int .i64 o.n, .slice ka o.ks.length kcp, .int .i64 o.e]] wr fun e w' => e = .returned (.bool (sfLong o)) ∧ Below wr.heap.size wr w') := HA7.out ▸ long_any (hok.below HB.out)
            have HCW : Hid (∀ w', Below W.heap.size W w' → w'.cell? ⟨b, off + j * 7, none⟩ = some (.int .i64 o.k) ∧ w'.cell? ⟨b, off + j * 7 + 1, none⟩ = some (.string ⟨o.nm.toArray⟩) ∧ w'.cell? ⟨b, off + j * 7 + 2, none⟩ = some (.string ⟨o.to.toArray⟩) ∧ w'.cell? ⟨b, off + j * 7 + 3, none⟩ = some (.slice ba o.b.length bcp) ∧ w'.cell? ⟨b, off + j * 7 + 4, none⟩ = some (.int .i64 o.n) ∧ w'.cell? ⟨b, off + j * 7 + 5, none⟩ = some (.slice ka o.ks.length kcp) ∧ w'.cell? ⟨b, off + j * 7 + 6, none⟩ = some (.int .i64 o.e)) := by
              intro w' hb
              have q : ∀ i (hi : i < 7), w'.cell? ⟨b, off + j * 7 + i, none⟩ = wr.cell? ⟨b, off + j * 7 + i, none⟩ := fun i hi => (hb.cell (p := ⟨b, off + j * 7 + i, none⟩) hbl).trans (HB.out.cell (p := ⟨b, off + j * 7 + i, none⟩) hbl).symm
              exact ⟨(q 0 (by decide)).trans y0, (q 1 (by decide)).trans y1, (q 2 (by decide)).trans y2, (q 3 (by decide)).trans y3, (q 4 (by decide)).trans y4, (q 5 (by decide)).trans y5, (q 6 (by decide)).trans y6⟩
            clear hc hok hcw hcell hbv hkv hbl HO HCS
            cases hlo : sfLong o with
            | true =>
              rw [hlo] at HLG
              go_wp2_with fail
              refine HLG.out.mono ?_
              rintro e w3 ⟨rfl, hb3⟩
              have HB3 : Hid (Below W.heap.size W w3) := HB.out.trans (hb3.mono HB.out.size)
              clear hb3 y0 y1 y2 y3 y4 y5 y6 hlo
              go_wp2_with fail
              refine (alive11_any _).mono ?_
              rintro e w4 ⟨rfl, hb4⟩
              go_wp2_with fail
              go_ret
              exact ⟨rfl, HB3.out.trans (hb4.mono HB3.out.size)⟩
            | false =>
              rw [hlo] at HLG
              have HLO : Hid (sfLong o = false) := hlo
              clear hlo
              go_wp2_with fail
              refine HLG.out.mono ?_
              rintro e w3 ⟨rfl, hb3⟩
              have HBD : Hid (Below W.heap.size W w3.drew) := (HB.out.trans (hb3.mono HB.out.size)).drew
              have HDD : Hid (Duo w3.drew W.heap.size (.pointer (some ⟨g, 0, none⟩)) (.pointer (some ⟨g2, 0, none⟩)) S S) := HD.out.below hb3.drew
              clear hb3 y0 y1 y2 y3 y4 y5 y6 HD HLG
              obtain ⟨R, HR⟩ := hid_ex (sfCall S o)
              have HPR : Hid (R.2.pend.length ≤ j + 1 ∧ R.2.fls.length ≤ j + 1) := by
                have h1 := sfCall_pend S o
                have h2 := sfCall_fls S o
                have h3 := HP.out
                rw [← HR.out] at h1 h2
                exact ⟨by omega, by omega⟩
              have HC1 : Hid (Calls Try.prog 8 #[.pointer (some ⟨g, 0, none⟩), .agg #[.int .i64 o.k, .string ⟨o.nm.toArray⟩, .string ⟨o.to.toArray⟩, .slice ba o.b.length bcp, .int .i64 o.n, .slice ka o.ks.length kcp, .int .i64 o.e]] w3.drew fun e w' => e = .returned (.int .i64 R.1) ∧ Duo w' W.heap.size (.pointer (some ⟨g, 0, none⟩)) (.pointer (some ⟨g2, 0, none⟩)) R.2 S ∧ Below W.heap.size W w') :=
                HR.out ▸ HA7.out ▸ HDD.out.call HBD.out o HOK.out (by have := (long_false HLO.out).1; omega) (by have := HP.out.1; omega)
              have HC2 : Hid (∀ w, Duo w W.heap.size (.pointer (some ⟨g, 0, none⟩)) (.pointer (some ⟨g2, 0, none⟩)) R.2 S → Below W.heap.size W w → Calls Try.prog 9 #[.pointer (some ⟨g2, 0, none⟩), .agg #[.int .i64 o.k, .string ⟨o.nm.toArray⟩, .string ⟨o.to.toArray⟩, .slice ba o.b.length bcp, .int .i64 o.n, .slice ka o.ks.length kcp, .int .i64 o.e]] w fun e w' => e = .returned (.int .i64 R.1) ∧ Duo w' W.heap.size (.pointer (some ⟨g, 0, none⟩)) (.pointer (some ⟨g2, 0, none⟩)) R.2 R.2 ∧ Below W.heap.size W w') := by
                intro w hd hb
                have h1 := hd.model hb o HOK.out HLO.out (by have := HP.out.1; omega) (by have := HP.out.2; omega)
                rw [HA7.out, ← HR.out] at h1
                exact h1
              obtain ⟨E, T⟩ := R
              clear HA7 HOK HLO HP HDD HR
              go_wp2_with fail
              refine wp_region_noPanic ?_
              refine wp_region_held_drew (S := (fun w' => Below W.heap.size W w')) (by kernel_rfl) ?_ (fun hHeld => ?_)
              · exact HBD.out
              refine wpAnyH_take (i := 0) (v := .pointer (some ⟨g, 0, none⟩)) rfl (by kernel_rfl) (by kernel_rfl) (by kernel_rfl) (fun _ _ _ h => h) (Or.inl ⟨by rfl, ?_⟩) (by assumption) ?_
              · (intro w1 hSw; (try dsimp only at hSw); go_simp)
              simp only [List.getElem_toArray, List.getElem_cons_zero, Act.put, List.setIfInBounds_toArray, List.set_cons_zero, List.set_cons_succ]
              refine wpAnyH_take (i := 1) (v := .slice (some ⟨b, off, none⟩) L.length cap) rfl (by kernel_rfl) (by kernel_rfl) (by kernel_rfl) (fun _ _ _ h => h) (Or.inl ⟨by rfl, ?_⟩) (by assumption) ?_
              · (intro w1 hSw; (try dsimp only at hSw); go_simp)
              simp only [List.getElem_toArray, List.getElem_cons_succ, List.getElem_cons_zero, Act.put, List.setIfInBounds_toArray, List.set_cons_zero, List.set_cons_succ]
              refine wpAnyH_take (i := 2) (v := .int .i64 (j : Int)) rfl (by kernel_rfl) (by kernel_rfl) (by kernel_rfl) (fun _ _ _ h => h) (Or.inl ⟨by rfl, ?_⟩) (by assumption) ?_
              · (intro w1 hSw; (try dsimp only at hSw); go_simp)
              simp only [List.getElem_toArray, List.getElem_cons_succ, List.getElem_cons_zero, Act.put, List.setIfInBounds_toArray, List.set_cons_zero, List.set_cons_succ]
              refine wpAnyH_take (i := 3) (v := .pointer (some ⟨b, off + j * 7, none⟩)) rfl (by kernel_rfl) (by kernel_rfl) (by kernel_rfl) (fun _ _ _ h => h) (Or.inl ⟨by rfl, ?_⟩) (by assumption) ?_
              · (intro w1 hSw; (try dsimp only at hSw); go_simp)
              simp only [List.getElem_toArray, List.getElem_cons_succ, List.getElem_cons_zero, Act.put, List.setIfInBounds_toArray, List.set_cons_zero, List.set_cons_succ]
              refine wpAnyH_take (i := 4) (v := .agg #[.int .i64 o.k, .string ⟨o.nm.toArray⟩, .string ⟨o.to.toArray⟩, .slice ba o.b.length bcp, .int .i64 o.n, .slice ka o.ks.length kcp, .int .i64 o.e]) rfl (by kernel_rfl) (by kernel_rfl) (by kernel_rfl) (fun _ _ _ h => h) (Or.inl ⟨by rfl, ?_⟩) (by assumption) ?_
              · (intro w1 hSw; (try dsimp only at hSw); obtain ⟨z0, z1, z2, z3, z4, z5, z6⟩ := HCW.out _ hSw; go_simp)
              simp only [List.getElem_toArray, List.getElem_cons_succ, List.getElem_cons_zero, Act.put, List.setIfInBounds_toArray, List.set_cons_zero, List.set_cons_succ]
              refine wpAnyH_take (i := 6) (v := .pointer (some ⟨g2, 0, none⟩)) rfl (by kernel_rfl) (by kernel_rfl) (by kernel_rfl) (fun _ _ _ h => h) (Or.inl ⟨by rfl, ?_⟩) (by assumption) ?_
              · (intro w1 hSw; (try dsimp only at hSw); go_simp)
              simp only [List.getElem_toArray, List.getElem_cons_succ, List.getElem_cons_zero, Act.put, List.setIfInBounds_toArray, List.set_cons_zero, List.set_cons_succ]
              refine wpAnyH_take (i := 7) (v := .slice (some ⟨b, off, none⟩) L.length cap) rfl (by kernel_rfl) (by kernel_rfl) (by kernel_rfl) (fun _ _ _ h => h) (Or.inl ⟨by rfl, ?_⟩) (by assumption) ?_
              · (intro w1 hSw; (try dsimp only at hSw); go_simp)
              simp only [List.getElem_toArray, List.getElem_cons_succ, List.getElem_cons_zero, Act.put, List.setIfInBounds_toArray, List.set_cons_zero, List.set_cons_succ]
              refine wpAnyH_take (i := 8) (v := .int .i64 (j : Int)) rfl (by kernel_rfl) (by kernel_rfl) (by kernel_rfl) (fun _ _ _ h => h) (Or.inl ⟨by rfl, ?_⟩) (by assumption) ?_
              · (intro w1 hSw; (try dsimp only at hSw); go_simp)
              simp only [List.getElem_toArray, List.getElem_cons_succ, List.getElem_cons_zero, Act.put, List.setIfInBounds_toArray, List.set_cons_zero, List.set_cons_succ]
              refine wpAnyH_take (i := 9) (v := .pointer (some ⟨b, off + j * 7, none⟩)) rfl (by kernel_rfl) (by kernel_rfl) (by kernel_rfl) (fun _ _ _ h => h) (Or.inl ⟨by rfl, ?_⟩) (by assumption) ?_
              · (intro w1 hSw; (try dsimp only at hSw); go_simp)
              simp only [List.getElem_toArray, List.getElem_cons_succ, List.getElem_cons_zero, Act.put, List.setIfInBounds_toArray, List.set_cons_zero, List.set_cons_succ]
              refine wpAnyH_take (i := 10) (v := .agg #[.int .i64 o.k, .string ⟨o.nm.toArray⟩, .string ⟨o.to.toArray⟩, .slice ba o.b.length bcp, .int .i64 o.n, .slice ka o.ks.length kcp, .int .i64 o.e]) rfl (by kernel_rfl) (by kernel_rfl) (by kernel_rfl) (fun _ _ _ h => h) (Or.inl ⟨by rfl, ?_⟩) (by assumption) ?_
              · (intro w1 hSw; (try dsimp only at hSw); obtain ⟨z0, z1, z2, z3, z4, z5, z6⟩ := HCW.out _ hSw; go_simp)
              simp only [List.getElem_toArray, List.getElem_cons_succ, List.getElem_cons_zero, Act.put, List.setIfInBounds_toArray, List.set_cons_zero, List.set_cons_succ]
              refine wpAnyH_ready (rs := [5]) (by kernel_rfl) (by simp) ?_
              refine AllReadyH.cons (o := _) rfl (fun K hK => ?_) AllReadyH.nil
              go_simp
              refine HC1.out.mono ?_
              clear HC1
              rintro e w4 ⟨rfl, hd4, hb4⟩
              have HD4 : Hid (Duo w4 W.heap.size (.pointer (some ⟨g, 0, none⟩)) (.pointer (some ⟨g2, 0, none⟩)) T S) := hd4
              have HB4 : Hid (Below W.heap.size W w4) := hb4
              clear hd4 hb4
              go_simp
              refine hK.out _ _ ?_ (fun hHeld => ?_)
              · exact HB4.out
              clear hK K
              refine wpAnyH_ready (rs := [11]) (by kernel_rfl) (by simp) ?_
              refine AllReadyH.cons (o := _) rfl (fun K hK => ?_) AllReadyH.nil
              go_simp
              refine (HC2.out _ HD4.out HB4.out).mono ?_
              clear HC2
              rintro e w5 ⟨rfl, hd5, hb5⟩
              have HD5 : Hid (Duo w5 W.heap.size (.pointer (some ⟨g, 0, none⟩)) (.pointer (some ⟨g2, 0, none⟩)) T T) := hd5
              have HB5 : Hid (Below W.heap.size W w5) := hb5
              clear hd5 hb5
              go_simp
              refine hK.out _ _ ?_ (fun hHeld => ?_)
              · exact HB5.out
              clear hK K
              refine wpAnyH_take (i := 12) (v := .bool false) rfl (by kernel_rfl) (by kernel_rfl) (by kernel_rfl) (fun _ _ _ h => h) (Or.inl ⟨by rfl, ?_⟩) (by assumption) ?_
              · (intro w1 hSw; (try dsimp only at hSw); go_simp)
              simp only [List.getElem_toArray, List.getElem_cons_succ, List.getElem_cons_zero, Act.put, List.setIfInBounds_toArray, List.set_cons_zero, List.set_cons_succ]
              refine wpAnyH_take (i := 13) (v := .bool false) rfl (by kernel_rfl) (by kernel_rfl) (by kernel_rfl) (fun _ _ _ h => h) (Or.inl ⟨by rfl, ?_⟩) (by assumption) ?_
              · (intro w1 hSw; (try dsimp only at hSw); go_simp)
              simp only [List.getElem_toArray, List.getElem_cons_succ, List.getElem_cons_zero, Act.put, List.setIfInBounds_toArray, List.set_cons_zero, List.set_cons_succ]
              refine wpAnyH_take (i := 14) (v := .pointer (some ⟨g, 0, none⟩)) rfl (by kernel_rfl) (by kernel_rfl) (by kernel_rfl) (fun _ _ _ h => h) (Or.inl ⟨by rfl, ?_⟩) (by assumption) ?_
              · (intro w1 hSw; (try dsimp only at hSw); go_simp)
              simp only [List.getElem_toArray, List.getElem_cons_succ, List.getElem_cons_zero, Act.put, List.setIfInBounds_toArray, List.set_cons_zero, List.set_cons_succ]
              refine wpAnyH_take (i := 15) (v := .pointer (some ⟨g2, 0, none⟩)) rfl (by kernel_rfl) (by kernel_rfl) (by kernel_rfl) (fun _ _ _ h => h) (Or.inl ⟨by rfl, ?_⟩) (by assumption) ?_
              · (intro w1 hSw; (try dsimp only at hSw); go_simp)
              simp only [List.getElem_toArray, List.getElem_cons_succ, List.getElem_cons_zero, Act.put, List.setIfInBounds_toArray, List.set_cons_zero, List.set_cons_succ]
              refine wpAnyH_ready (rs := [16]) (by kernel_rfl) (by simp) ?_
              refine AllReadyH.cons (o := _) rfl (fun K hK => ?_) AllReadyH.nil
              go_simp
              refine HD5.out.alike.mono ?_
              rintro e w6 ⟨rfl, hb6⟩
              have HD6 : Hid (Duo w6 W.heap.size (.pointer (some ⟨g, 0, none⟩)) (.pointer (some ⟨g2, 0, none⟩)) T T) := HD5.out.below hb6
              have HB6 : Hid (Below W.heap.size W w6) := HB5.out.trans (hb6.mono HB5.out.size)
              clear hb6
              go_simp
              refine hK.out _ _ ?_ (fun hHeld => ?_)
              · exact HB6.out
              clear hK K
              refine wpAnyH_take (i := 17) (v := .bool false) rfl (by kernel_rfl) (by kernel_rfl) (by kernel_rfl) (fun _ _ _ h => h) (Or.inl ⟨by rfl, ?_⟩) (by assumption) ?_
              · (intro w1 hSw; (try dsimp only at hSw); go_simp)
              simp only [List.getElem_toArray, List.getElem_cons_succ, List.getElem_cons_zero, Act.put, List.setIfInBounds_toArray, List.set_cons_zero, List.set_cons_succ]
              refine wpAnyH_take (i := 18) (v := .bool false) rfl (by kernel_rfl) (by kernel_rfl) (by kernel_rfl) (fun _ _ _ h => h) (Or.inl ⟨by rfl, ?_⟩) (by assumption) ?_
              · (intro w1 hSw; (try dsimp only at hSw); go_simp)
              simp only [List.getElem_toArray, List.getElem_cons_succ, List.getElem_cons_zero, Act.put, List.setIfInBounds_toArray, List.set_cons_zero, List.set_cons_succ]
              refine wpAnyH_done (by kernel_rfl) ?_ _
              refine NoPanic.normal ?_
              clear hHeld HD5 HB5 HD4 HB4 HBD HCW
              go_wp2_with fail
              go_roundw
              case rel => exact ⟨j + 1, T, by go_num, by omega, by omega, HD6, HPR, HB6⟩
              case measure => simp [intOf]; omega
        · have h60' : ¬ (j : Int) < 60 := by omega
          clear HCS
          go_wp2_with fail
          refine (alive11_any _).mono ?_
          rintro e w3 ⟨rfl, hb3⟩
          go_wp2_with fail
          go_ret
          exact ⟨rfl, HB.out.trans (hb3.mono HB.out.size)⟩
      · have hlt' : ¬ (j : Int) < (L.length : Int) := by omega
        clear HCS
        go_wp2_with fail
        refine (alive11_any _).mono ?_
        rintro e w3 ⟨rfl, hb3⟩
        go_wp2_with fail
        go_ret
        exact ⟨rfl, HB.out.trans (hb3.mono HB.out.size)⟩
end Go.Proofs.Ytijablmejjepaaa
