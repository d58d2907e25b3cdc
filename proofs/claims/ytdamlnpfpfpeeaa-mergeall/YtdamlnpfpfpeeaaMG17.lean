/- What comes of rows, put together: a row. -/
import Derived.Test.YtdamlnpfpfpeeaaMG11
namespace Go.Proofs.Ytdamlnpfpfpeeaa

theorem snoc_ind {α : Type} {p : List α → Prop} (h0 : p []) (h1 : ∀ l x, p l → p (l ++ [x])) : ∀ l, p l := by
  intro l
  have : ∀ r : List α, p r.reverse := by
    intro r
    induction r with
    | nil => exact h0
    | cons x r ih => rw [List.reverse_cons]; exact h1 _ _ ih
  have h := this l.reverse
  rwa [List.reverse_reverse] at h
theorem mrg_right {a b : Ag} (ha : rightB a = true) (hb : rightB b = true) (ca : CnOk a) (cb : CnOk b) : rightB (mrg a b) = true := by
  unfold mrg
  by_cases h1 : a.c = 0
  · rw [if_pos h1]; exact hb
  · rw [if_neg h1]
    by_cases h2 : b.c = 0
    · rw [if_pos h2]; exact ha
    · rw [if_neg h2]
      obtain ⟨a1, a2⟩ := ca
      obtain ⟨b1, b2⟩ := cb
      unfold rightB at ha hb ⊢
      rw [if_neg h1] at ha
      rw [if_neg h2] at hb
      simp only [Bool.and_eq_true, decide_eq_true_eq, Bool.or_eq_true, Bool.not_eq_true', beq_iff_eq] at ha hb
      have hc : 0 < cntF a.c b.c := by unfold cntF; split <;> omega
      show (if cntF a.c b.c = 0 then _ else _) = true
      rw [if_neg (by omega)]
      simp only [Bool.and_eq_true, decide_eq_true_eq, Bool.or_eq_true, Bool.not_eq_true', beq_iff_eq]
      refine ⟨by unfold minF maxF; split <;> split <;> omega, ?_⟩
      by_cases h : 18446744073709551616 ≤ a.c + b.c
      · right; unfold cntF; rw [if_neg (by omega)]
      · have hov : ovF a.c b.c = false := by unfold ovF; simp; omega
        rw [hov]
        cases ho : a.o
        · cases ho2 : b.o
          · left; rfl
          · rcases hb.2 with h2 | h2
            · rw [ho2] at h2; cases h2
            · omega
        · rcases ha.2 with h2 | h2
          · rw [ho] at h2; cases h2
          · omega
/-- What is known of what has been put together so far. -/
structure Grp (D : List Tg) : Prop where
  so : (keysE (grpG D)).Pairwise ltK
  ri : ∀ x ∈ grpG D, rightB x.2 = true ∧ CnOk x.2
  la : ∀ h : 0 < (grpG D).length, ∀ h2 : 0 < D.length, ((grpG D)[(grpG D).length - 1]'(by omega)).1 = (D[D.length - 1]'(by omega)).1.1
  ne : 0 < D.length → 0 < (grpG D).length
  ke : ∀ x ∈ grpG D, ∃ t ∈ D, x.1 = t.1.1
theorem grp_all : ∀ D : List Tg, D.Pairwise ltG → (∀ t ∈ D, rightB t.2 = true ∧ CnOk t.2) → Grp D := by
  refine snoc_ind ?_ ?_
  · intro _ _
    exact ⟨List.Pairwise.nil, fun x hx => (by cases hx), fun h => (by simp [grpG] at h), fun h => (by simp at h), fun x hx => (by cases hx)⟩
  · intro D t ih hp hr
    rw [List.pairwise_append] at hp
    have hg := ih hp.1 (fun x hx => hr x (List.mem_append_left _ hx))
    have ht := hr t (by simp)
    by_cases hc : ∃ h0 : 0 < (grpG D).length, ((grpG D)[(grpG D).length - 1]'(by omega)).1 = t.1.1
    · obtain ⟨h0, h1⟩ := hc
      have e := addG_same h0 h1
      rw [← grpG_snoc] at e
      have hk : keysE (grpG (D ++ [t])) = keysE (grpG D) := by
        rw [e]
        unfold keysE
        rw [List.map_set]
        apply List.ext_getElem
        · simp
        · intro j h3 h4
          rw [List.getElem_set]; split
          · rename_i ej; subst ej; simp [h1]
          · rfl
      refine ⟨by rw [hk]; exact hg.so, fun x hx => ?_, fun h3 h4 => ?_, fun _ => by rw [e, List.length_set]; exact h0, fun x hx => ?_⟩
      · rw [e] at hx
        rcases List.mem_or_eq_of_mem_set hx with hx | rfl
        · exact hg.ri x hx
        · have h5 := hg.ri _ (List.getElem_mem (show (grpG D).length - 1 < (grpG D).length by omega))
          exact ⟨mrg_right h5.1 ht.1 h5.2 ht.2, mrg_cn h5.2 ht.2⟩
      · have e2 : (grpG (D ++ [t])).length = (grpG D).length := by rw [e, List.length_set]
        simp only [e2]
        have e3 : (grpG (D ++ [t]))[(grpG D).length - 1]'(by omega) = (t.1.1, mrg ((grpG D)[(grpG D).length - 1]'(by omega)).2 t.2) := by
          simp only [e]; simp
        rw [e3]; simp
      · rw [e] at hx
        rcases List.mem_or_eq_of_mem_set hx with hx | rfl
        · obtain ⟨d, hd, hd2⟩ := hg.ke x hx
          exact ⟨d, List.mem_append_left _ hd, hd2⟩
        · exact ⟨t, by simp, rfl⟩
    · have e := addG_new (t := t) (E := grpG D) (fun h0 h1 => hc ⟨h0, h1⟩)
      rw [← grpG_snoc] at e
      have hlast : ∀ x ∈ keysE (grpG D), ltK x t.1.1 := by
        intro x hx
        obtain ⟨i, hi, rfl⟩ := List.getElem_of_mem hx
        have hi' : i < (grpG D).length := by simpa [keysE] using hi
        have hD : 0 < D.length := by
          rcases Nat.eq_zero_or_pos D.length with h | h
          · rw [List.length_eq_zero_iff.1 h] at hi'; simp [grpG] at hi'
          · exact h
        have hla := hg.la (by omega) hD
        have hlt := hp.2.2 (D[D.length - 1]'(by omega)) (List.getElem_mem _) t (by simp)
        have hk : ltK ((grpG D)[(grpG D).length - 1]'(by omega)).1 t.1.1 := by
          rw [hla]
          rcases hlt with h | ⟨h, _⟩
          · exact h
          · exact absurd ⟨by omega, hla.trans h⟩ hc
        rcases Nat.lt_or_ge i ((grpG D).length - 1) with h5 | h5
        · have := List.pairwise_iff_getElem.1 hg.so i ((grpG D).length - 1) hi (by simp [keysE]; omega) h5
          simp only [keysE, List.getElem_map] at this ⊢
          exact ltK_trans this hk
        · have e5 : i = (grpG D).length - 1 := by omega
          subst e5
          simp only [keysE, List.getElem_map]
          exact hk
      refine ⟨?_, fun x hx => ?_, fun h3 h4 => ?_, fun _ => by rw [e]; simp, fun x hx => ?_⟩
      · rw [e]
        unfold keysE
        rw [List.map_append, List.pairwise_append]
        refine ⟨hg.so, List.pairwise_singleton _ _, fun x hx y hy => ?_⟩
        obtain rfl : y = t.1.1 := by simpa using hy
        exact hlast x hx
      · rw [e] at hx
        rcases List.mem_append.1 hx with hx | hx
        · exact hg.ri x hx
        · obtain rfl : x = (t.1.1, t.2) := by simpa using hx
          exact ht
      · simp only [e]; simp
      · rw [e] at hx
        rcases List.mem_append.1 hx with hx | hx
        · obtain ⟨d, hd, hd2⟩ := hg.ke x hx
          exact ⟨d, List.mem_append_left _ hd, hd2⟩
        · obtain rfl : x = (t.1.1, t.2) := by simpa using hx
          exact ⟨t, by simp, rfl⟩
theorem tags_mem : ∀ (rs : List (List En)) (i : Nat), ∀ t ∈ tagsF i rs, ∃ r ∈ rs, (t.1.1, t.2) ∈ r
  | [], _, t, h => by simp [tagsF] at h
  | r :: rs, i, t, h => by
    unfold tagsF at h
    rcases List.mem_append.1 h with h | h
    · unfold tagP at h
      obtain ⟨x, hx, rfl⟩ := List.mem_map.1 h
      exact ⟨r, List.mem_cons_self .., hx⟩
    · obtain ⟨r', h1, h2⟩ := tags_mem rs (i + 1) t h
      exact ⟨r', List.mem_cons_of_mem _ h1, h2⟩
theorem seq_mem {rs : List (List En)} : ∀ t ∈ seqF rs, ∃ r ∈ rs, (t.1.1, t.2) ∈ r := fun t ht => tags_mem rs 0 t ((srtG_perm _).mem_iff.1 ht)
theorem all_grp {rs : List (List En)} (h : rowsF rs = 0) (hc : ∀ r ∈ rs, ∀ x ∈ r, CnOk x.2) : Grp (seqF rs) := by
  refine grp_all _ (seqF_pw h) (fun t ht => ?_)
  obtain ⟨r, hr, hx⟩ := seq_mem t ht
  exact ⟨(rowF_ok (rowsF_ok.1 h r hr)).2 _ hx, hc r hr _ hx⟩
/-- All rows together are a row. -/
theorem allF_row {rs : List (List En)} (h : rowsF rs = 0) (hc : ∀ r ∈ rs, ∀ x ∈ r, CnOk x.2) : rowF (allF rs) = 0 := by
  have hg := all_grp h hc
  exact rowF_of hg.so (fun x hx => (hg.ri x hx).1)
theorem allF_key {rs : List (List En)} (h : rowsF rs = 0) (hc : ∀ r ∈ rs, ∀ x ∈ r, CnOk x.2) : ∀ x ∈ allF rs, ∃ r ∈ rs, ∃ y ∈ r, x.1 = y.1 := by
  intro x hx
  obtain ⟨t, ht, hk⟩ := (all_grp h hc).ke x hx
  obtain ⟨r, hr, hy⟩ := seq_mem t ht
  exact ⟨r, hr, _, hy, hk⟩
theorem grp_tag : ∀ (l : List En) (i : Nat), (keysE l).Pairwise ltK → grpG (tagP (l, i)) = l := by
  refine snoc_ind ?_ ?_
  · intro i _; rfl
  · intro l x ih i hp
    have e : tagP (l ++ [x], i) = tagP (l, i) ++ [((x.1, i), x.2)] := by unfold tagP; simp
    unfold keysE at hp
    rw [List.map_append, List.pairwise_append] at hp
    rw [e, grpG_snoc, ih i hp.1, addG_new]
    intro h0 h1
    have := hp.2.2 _ (List.mem_map.2 ⟨_, List.getElem_mem (show l.length - 1 < l.length by omega), rfl⟩) x.1 (by simp)
    exact ltK_ne this h1
theorem tagP_pw {l : List En} {i : Nat} (h : (keysE l).Pairwise ltK) : (tagP (l, i)).Pairwise ltG := by
  unfold tagP
  rw [List.pairwise_map]
  unfold keysE at h
  rw [List.pairwise_map] at h
  exact h.imp (fun hab => .inl hab)
/-- A row, with empty ones. -/
theorem allF_alone {l : List En} (h : rowF l = 0) : rowsF [[], l, []] = 0 ∧ allF [[], l, []] = l := by
  have h0 : rowF [] = 0 := rowF_of List.Pairwise.nil (fun x hx => (by cases hx))
  have hr : rowsF [[], l, []] = 0 := rowsF_ok.2 (fun r hr => by
    simp only [List.mem_cons, List.not_mem_nil, or_false] at hr
    rcases hr with rfl | rfl | rfl
    · exact h0
    · exact h
    · exact h0)
  refine ⟨hr, ?_⟩
  have e : tagsF 0 [[], l, []] = tagP (l, 1) := by simp [tagsF, tagP]
  have e2 : seqF [[], l, []] = tagP (l, 1) := pw_unique (seqF_pw hr) (tagP_pw (rowF_ok h).1) ((srtG_perm _).trans (by rw [e]))
  unfold allF
  rw [e2]
  exact grp_tag l 1 (rowF_ok h).1
end Go.Proofs.Ytdamlnpfpfpeeaa
