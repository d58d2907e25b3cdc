/- The reference's After: plain facts. -/
import Derived.Test.YteagbcijpfpjhaaPK18
namespace Go.Proofs.Yteagbcijpfpjhaa
open Go.RowKit Go.Shelf

theorem infoM : (Try.prog.info? 53).map (fun i => (i.zero, i.size, i.bytes)) = some (some (.agg #[.int .i64 0, .int .i64 0, .int .i64 0, .bool false]), 4, 32) := by kernel_rfl
def newR (c f lv : Int) (M : List Rn) : List Rn := if 0 < c then M ++ [⟨f, lv, c, false⟩] else M
/-- What is left of a count, run by run. -/
def lftS (fs : List Int) (l : Int) (r : Rn) : Int := if has fs r.f then (if r.c < l then l - r.c else 0) else l
def named (fs : List Int) (L : List Rn) : Nat := (L.map fun r => fs.count r.f).sum
def outs (fs : List Int) (L : List Rn) : List Rn := L.filter fun r => !has fs r.f
def goodR (fs : List Int) (f : Int) (r : Rn) : Prop := fs.count r.f ≤ 1 ∧ (fs.count r.f = 0 → r.f ≠ f)
theorem erase_filter : ∀ {L : List Rn} (_ : Uq L) {k : Nat} (hk : k < L.length), L.eraseIdx k = L.filter fun r => !decide (r.f = L[k].f)
  | [], _, k, hk => by simp at hk
  | r :: L, hu, 0, _ => by
    have hu1 := (List.pairwise_cons.1 hu).1
    simp
    symm
    rw [List.filter_eq_self]
    intro x hx
    simp
    exact fun e => hu1 x hx e.symm
  | r :: L, hu, k + 1, hk => by
    have hu1 := (List.pairwise_cons.1 hu).1
    have hk2 : k < L.length := by simpa using hk
    have ih := erase_filter (List.pairwise_cons.1 hu).2 hk2
    rw [List.eraseIdx_cons_succ, List.filter_cons, ih]
    have : r.f ≠ (r :: L)[k + 1].f := by simp; exact hu1 _ (List.getElem_mem hk2)
    rw [if_pos (by simpa using this)]
    simp
theorem outF_known : ∀ {fs : List Int} {L : List Rn} {c : Int} {M : List Rn} {d : Int}, Uq L → outF L c fs = some (M, d) → fs.Nodup ∧ (∀ f ∈ fs, ∃ r ∈ L, r.f = f) ∧ M = outs fs L
  | [], L, c, M, d, _, h => by
    simp [outF] at h
    obtain ⟨rfl, _⟩ := h
    refine ⟨List.nodup_nil, by simp, ?_⟩
    unfold outs
    symm
    rw [List.filter_eq_self]
    intro x _
    simp [has]
  | f :: fs, L, c, M, d, hu, h => by
    rw [outF] at h
    split at h
    · cases h
    · rename_i k hk
      obtain ⟨hkl, hkf, _⟩ := List.findIdx?_eq_some_iff_getElem.1 hk
      have hkf : L[k].f = f := by simpa using hkf
      have hu2 : Uq (L.eraseIdx k) := List.Pairwise.sublist (List.eraseIdx_sublist _ _) hu
      obtain ⟨h1, h2, h3⟩ := outF_known hu2 h
      refine ⟨List.nodup_cons.2 ⟨fun hin => ?_, h1⟩, fun g hg => ?_, ?_⟩
      · obtain ⟨r, hr, e⟩ := h2 f hin
        exact ((mem_erase hu hkl r).1 hr).2 (by rw [e, hkf])
      · rcases List.mem_cons.1 hg with rfl | hg
        · exact ⟨L[k], List.getElem_mem hkl, hkf⟩
        · obtain ⟨r, hr, e⟩ := h2 g hg
          exact ⟨r, List.mem_of_mem_eraseIdx hr, e⟩
      · rw [h3, outs, outs, erase_filter hu hkl, List.filter_filter]
        apply List.filter_congr
        intro x _
        have : has (f :: fs) x.f = (decide (x.f = f) || has fs x.f) := has_eq (by rw [List.mem_cons, Bool.or_eq_true, has_iff]; simp)
        rw [this, hkf, Bool.not_or, Bool.and_comm]
theorem sum_all : ∀ (L : List Rn) (fs : List Int), Uq L → fs.Nodup → (∀ f ∈ fs, ∃ r ∈ L, r.f = f) → ((L.filter fun r => has fs r.f).map Rn.c).sum = sumC L fs
  | [], fs, _, _, hk => by
    have : fs = [] := by
      cases fs with
      | nil => rfl
      | cons f fs => obtain ⟨r, hr, _⟩ := hk f (List.mem_cons_self ..); simp at hr
    subst this
    rfl
  | r :: L, fs, hu, hn, hk => by
    obtain ⟨hu1, hu2⟩ := List.pairwise_cons.1 hu
    have hco : ∀ g, g ≠ r.f → cntO (r :: L) g = cntO L g := by
      intro g hg
      unfold cntO
      rw [List.find?_cons_of_neg (by simpa using fun e => hg e.symm)]
    have hkn : ∀ g ∈ fs, g ≠ r.f → ∃ x ∈ L, x.f = g := by
      intro g hg hne
      obtain ⟨x, hx, e⟩ := hk g hg
      rcases List.mem_cons.1 hx with rfl | hx
      · exact absurd e.symm hne
      · exact ⟨x, hx, e⟩
    by_cases hin : r.f ∈ fs
    · have ih := sum_all L (fs.erase r.f) hu2 (hn.erase _) (fun g hg => hkn g (List.mem_of_mem_erase hg) (fun e => by subst e; exact (List.Nodup.not_mem_erase hn) hg))
      have e1 : sumC (r :: L) fs = r.c + sumC L (fs.erase r.f) := by
        unfold sumC
        rw [sum_erase _ fs r.f hin, cntO_eq hu (List.mem_cons_self ..)]
        congr 2
        apply List.map_congr_left
        intro g hg
        exact hco g (fun e => by subst e; exact (List.Nodup.not_mem_erase hn) hg)
      have e2 : (L.filter fun x => has fs x.f) = L.filter fun x => has (fs.erase r.f) x.f := by
        apply List.filter_congr
        intro x hx
        have hne : x.f ≠ r.f := fun e => hu1 x hx e.symm
        exact has_eq (by rw [has_iff, List.mem_erase_of_ne hne])
      rw [e1, List.filter_cons, if_pos (has_iff.2 hin), e2, List.map_cons, List.sum_cons, ih]
    · have ih := sum_all L fs hu2 hn (fun g hg => hkn g hg (fun e => by subst e; exact hin hg))
      have e1 : sumC (r :: L) fs = sumC L fs := by
        unfold sumC
        congr 1
        apply List.map_congr_left
        intro g hg
        exact hco g (fun e => by subst e; exact hin hg)
      rw [e1, List.filter_cons, if_neg (by rw [has_iff]; exact hin), ih]
theorem lft_fold (fs : List Int) : ∀ (L : List Rn) (l : Int), 0 ≤ l → (∀ r ∈ L, 0 ≤ r.c) → L.foldl (lftS fs) l = max 0 (l - ((L.filter fun r => has fs r.f).map Rn.c).sum)
  | [], l, hl, _ => by simp; omega
  | r :: L, l, hl, hp => by
    have hr := hp r (List.mem_cons_self ..)
    have hp2 : ∀ x ∈ L, 0 ≤ x.c := fun x hx => hp x (List.mem_cons_of_mem _ hx)
    have hs0 : ∀ l : List Rn, (∀ x ∈ l, 0 ≤ x.c) → 0 ≤ (l.map Rn.c).sum := by
      intro l
      induction l with
      | nil => intro _; simp
      | cons x l ih =>
        intro h
        rw [List.map_cons, List.sum_cons]
        have := ih (fun z hz => h z (List.mem_cons_of_mem _ hz))
        have := h x (List.mem_cons_self ..)
        omega
    have h0 := hs0 (L.filter fun r => has fs r.f) (fun x hx => hp2 x (List.mem_filter.1 hx).1)
    have hl2 : 0 ≤ lftS fs l r := by unfold lftS; (repeat' split) <;> omega
    rw [List.foldl_cons, lft_fold fs L _ hl2 hp2, List.filter_cons]
    unfold lftS
    by_cases h : has fs r.f = true
    · rw [if_pos h, if_pos h, List.map_cons, List.sum_cons]
      split <;> omega
    · rw [if_neg h, if_neg h]
theorem named_nil : ∀ L : List Rn, named [] L = 0
  | [] => rfl
  | r :: L => by
    have ih := named_nil L
    unfold named at ih ⊢
    rw [List.map_cons, List.sum_cons, ih]
    rfl
theorem named_eq : ∀ (fs : List Int) {L : List Rn}, Uq L → named fs L ≤ fs.length ∧ (named fs L = fs.length ↔ ∀ f ∈ fs, ∃ r ∈ L, r.f = f)
  | [], L, _ => by
    simp [named_nil]
  | f :: fs, L, hu => by
    obtain ⟨i1, i2⟩ := named_eq fs hu
    have key : ∀ L : List Rn, Uq L → (∃ r ∈ L, r.f = f) ∧ named (f :: fs) L = named fs L + 1 ∨ (¬ ∃ r ∈ L, r.f = f) ∧ named (f :: fs) L = named fs L := by
      intro L
      induction L with
      | nil => intro _; exact .inr ⟨by simp, rfl⟩
      | cons r L ih =>
        intro hu
        obtain ⟨hu1, hu2⟩ := List.pairwise_cons.1 hu
        have e1 : named (f :: fs) (r :: L) = (f :: fs).count r.f + named (f :: fs) L := by unfold named; rw [List.map_cons, List.sum_cons]
        have e2 : named fs (r :: L) = fs.count r.f + named fs L := by unfold named; rw [List.map_cons, List.sum_cons]
        rw [e1, e2]
        by_cases hr : r.f = f
        · have hno : ¬ ∃ x ∈ L, x.f = f := fun ⟨x, hx, e⟩ => hu1 x hx (by rw [hr, e])
          rcases ih hu2 with ⟨h, _⟩ | ⟨_, h⟩
          · exact absurd h hno
          · left
            refine ⟨⟨r, List.mem_cons_self .., hr⟩, ?_⟩
            rw [h, hr, List.count_cons_self]
            omega
        · have ec : (f :: fs).count r.f = fs.count r.f := List.count_cons_of_ne (fun e => hr e.symm)
          rw [ec]
          rcases ih hu2 with ⟨⟨x, hx, e⟩, h⟩ | ⟨h0, h⟩
          · left; exact ⟨⟨x, List.mem_cons_of_mem _ hx, e⟩, by omega⟩
          · right
            refine ⟨fun ⟨x, hx, e⟩ => ?_, by omega⟩
            rcases List.mem_cons.1 hx with rfl | hx
            · exact hr e
            · exact h0 ⟨x, hx, e⟩
    rw [List.length_cons]
    rcases key L hu with ⟨hex, h⟩ | ⟨hno, h⟩
    · refine ⟨by omega, ⟨fun e g hg => ?_, fun hall => ?_⟩⟩
      · rcases List.mem_cons.1 hg with rfl | hg
        · exact hex
        · exact i2.1 (by omega) g hg
      · have := i2.2 (fun g hg => hall g (List.mem_cons_of_mem _ hg))
        omega
    · refine ⟨by omega, ⟨fun e => by omega, fun hall => absurd (hall f (List.mem_cons_self ..)) hno⟩⟩
/-- The reference's way to the same answer. -/
theorem aft_ref {L : List Rn} {fs : List Int} {lv f c : Int} (h : okB L = true ∧ 1 ≤ f ∧ 0 ≤ c ∧ (0 ≤ lv ∧ lv ≤ 3)) :
    (¬ (∀ r ∈ L, goodR fs f r) → aftF L fs lv f c = none) ∧ ((∀ r ∈ L, goodR fs f r) → (¬ (named fs L = fs.length ∧ L.foldl (lftS fs) c ≤ 0 ∧ okB (newR c f lv (outs fs L)) = true) → aftF L fs lv f c = none) ∧ ((named fs L = fs.length ∧ L.foldl (lftS fs) c ≤ 0 ∧ okB (newR c f lv (outs fs L)) = true) → aftF L fs lv f c = some (newR c f lv (outs fs L)))) := by
  have hok := okB_iff.1 h.1
  have hu := okR_uq hok
  have hp : ∀ r ∈ L, 0 ≤ r.c := fun r hr => by have := (hok.2.1 r hr).2.2.2; omega
  have hmem : ∀ r, r ∈ outs fs L ↔ r ∈ L ∧ r.f ∉ fs := by
    intro r
    unfold outs
    rw [List.mem_filter]
    simp [has]
  cases ho : outF L c fs with
  | none =>
    have hn := aft_out h ho
    refine ⟨fun _ => hn, fun hg => ⟨fun _ => hn, fun ⟨h1, _⟩ => ?_⟩⟩
    exfalso
    have hk := (named_eq fs hu).2.1 h1
    have hnd : fs.Nodup := by
      rw [List.nodup_iff_count]
      intro g
      by_cases hgm : g ∈ fs
      · obtain ⟨r, hr, e⟩ := hk g hgm
        rw [← e]
        exact (hg r hr).1
      · rw [List.count_eq_zero.2 hgm]; omega
    obtain ⟨M, d, e, _⟩ := outF_spec fs L c hu hnd hk h.2.2.1 hp
    rw [ho] at e
    cases e
  | some Md =>
    obtain ⟨M, d⟩ := Md
    obtain ⟨hnd, hk, hM⟩ := outF_known hu ho
    have hA := aft_some h ho
    rw [hM] at hA
    have hd : d = 0 ↔ L.foldl (lftS fs) c ≤ 0 := by
      rw [lft_fold fs L c h.2.2.1 hp, sum_all L fs hu hnd hk]
      obtain ⟨M2, d2, e, _, hd0, hd1⟩ := outF_spec fs L c hu hnd hk h.2.2.1 hp
      rw [ho] at e
      simp at e
      obtain ⟨_, rfl⟩ := e
      constructor
      · intro hz
        have : c ≤ sumC L fs := by
          rcases Int.lt_or_le (sumC L fs) c with h9 | h9
          · exfalso
            have hle : ∀ (fs : List Int) (L : List Rn) (c : Int) (M : List Rn) (d : Int), Uq L → outF L c fs = some (M, d) → c - sumC L fs ≤ d := by
              intro fs
              induction fs with
              | nil => intro L c M d _ h; simp [outF] at h; simp [sumC]; omega
              | cons g fs ih =>
                intro L c M d hu h
                obtain ⟨hnd, hk, _⟩ := outF_known hu h
                rw [outF] at h
                split at h
                · cases h
                · rename_i k hk9
                  obtain ⟨hkl, hkf, _⟩ := List.findIdx?_eq_some_iff_getElem.1 hk9
                  have hkf : L[k].f = g := by simpa using hkf
                  have hu2 : Uq (L.eraseIdx k) := List.Pairwise.sublist (List.eraseIdx_sublist _ _) hu
                  have h5 := ih _ _ _ _ hu2 h
                  have hk2 := (outF_known hu2 h).2.1
                  have e2 : sumC (L.eraseIdx k) fs = sumC L fs := by
                    unfold sumC
                    congr 1
                    apply List.map_congr_left
                    intro y hy
                    obtain ⟨x, hx, rfl⟩ := hk2 y hy
                    rw [cntO_eq hu2 hx, cntO_eq hu (List.mem_of_mem_eraseIdx hx)]
                  have e1 : sumC L (g :: fs) = L[k].c + sumC L fs := by
                    unfold sumC
                    rw [List.map_cons, List.sum_cons, ← hkf, cntO_eq hu (List.getElem_mem hkl)]
                  rw [e2] at h5
                  simp [hkl] at h5
                  rw [e1]
                  omega
            have := hle fs L c M d hu ho
            omega
          · exact h9
        omega
      · intro hz
        exact hd1 (by omega)
    have hgood : (∀ r ∈ L, goodR fs f r) ↔ ∀ r ∈ outs fs L, r.f ≠ f := by
      constructor
      · intro hg r hr
        obtain ⟨h1, h2⟩ := (hmem r).1 hr
        exact (hg r h1).2 (List.count_eq_zero.2 h2)
      · intro hg r hr
        refine ⟨(List.nodup_iff_count.1 hnd) r.f, fun h0 => hg r ((hmem r).2 ⟨hr, List.count_eq_zero.1 h0⟩)⟩
    have hnm : named fs L = fs.length := (named_eq fs hu).2.2 hk
    refine ⟨fun hng => ?_, fun hg => ⟨fun hn => ?_, fun ⟨_, h2, h3⟩ => ?_⟩⟩
    · rw [hA, if_neg (fun hh => hng (hgood.2 hh.2.1))]
    · rw [hA, if_neg (fun hh => hn ⟨hnm, hd.1 hh.1, hh.2.2⟩)]
    · rw [hA, if_pos ⟨hd.2 h2, hgood.1 hg, h3⟩]
      rfl
end Go.Proofs.Yteagbcijpfpjhaa
