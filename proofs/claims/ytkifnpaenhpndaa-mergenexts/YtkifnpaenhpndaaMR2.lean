/- The least of the rows' fronts is what is told next. -/
import Derived.Test.YtkifnpaenhpndaaMG20
namespace Go.Proofs.Ytkifnpaenhpndaa

/-- The front of a row, as a tag. -/
def frT (rs : List (List En)) (c : Nat → Nat) (i : Nat) : Option Tg := match rs[i]? with
  | none => none
  | some r => match r[c i]? with
    | none => none
    | some x => some ((x.1, i), x.2)
theorem frT_some {rs : List (List En)} {c : Nat → Nat} {i : Nat} (hi : i < rs.length) (hc : c i < rs[i].length) : frT rs c i = some (((rs[i])[c i].1, i), (rs[i])[c i].2) := by
  unfold frT
  rw [List.getElem?_eq_getElem hi]
  simp only
  rw [List.getElem?_eq_getElem hc]
theorem frT_none {rs : List (List En)} {c : Nat → Nat} {i : Nat} (hi : i < rs.length) (hc : ¬ c i < rs[i].length) : frT rs c i = none := by
  unfold frT
  rw [List.getElem?_eq_getElem hi]
  simp only
  rw [List.getElem?_eq_none (by omega)]
theorem frT_inv {rs : List (List En)} {c : Nat → Nat} {i : Nat} {t : Tg} (h : frT rs c i = some t) : ∃ hi : i < rs.length, ∃ hc : c i < rs[i].length, t = (((rs[i])[c i].1, i), (rs[i])[c i].2) := by
  by_cases hi : i < rs.length
  · by_cases hc : c i < rs[i].length
    · rw [frT_some hi hc] at h
      exact ⟨hi, hc, by simpa using h.symm⟩
    · rw [frT_none hi hc] at h; cases h
  · unfold frT at h
    rw [List.getElem?_eq_none (by omega)] at h
    cases h
/-- Each front is yet to be told. -/
theorem frT_mem {rs : List (List En)} (h0 : rowsF rs = 0) {D T : List Tg} (hs : seqF rs = D ++ T) {i : Nat} {u : Tg} (h : frT rs (cntD D) i = some u) : u ∈ T ∧ u.1.2 = i := by
  obtain ⟨hi, hc, rfl⟩ := frT_inv h
  refine ⟨?_, rfl⟩
  have h1 := seq_row h0 hi
  rw [hs, List.filter_append] at h1
  have h2 : (tagP (rs[i], i))[cntD D i]? = some (((rs[i])[cntD D i].1, i), (rs[i])[cntD D i].2) := by
    unfold tagP
    rw [List.getElem?_map, List.getElem?_eq_getElem hc]; rfl
  rw [← h1] at h2
  unfold cntD at h2
  rw [List.getElem?_append_right (Nat.le_refl _), Nat.sub_self] at h2
  exact (List.mem_filter.1 (List.mem_of_getElem? h2)).1
/-- The least front of the first k rows, and the first of them. -/
def Best (rs : List (List En)) (c : Nat → Nat) (k : Nat) : Option Nat → Prop
  | none => ∀ i, i < k → frT rs c i = none
  | some j => j < k ∧ ∃ u, frT rs c j = some u ∧ ∀ i v, i < k → frT rs c i = some v → ¬ ltG v u
theorem best_zero (rs : List (List En)) (c : Nat → Nat) : Best rs c 0 none := fun i hi => by omega
theorem best_skip {rs : List (List En)} {c : Nat → Nat} {k : Nat} {o : Option Nat} (h : Best rs c k o) (hn : frT rs c k = none) : Best rs c (k + 1) o := by
  cases o with
  | none =>
    intro i hi
    rcases Nat.lt_or_ge i k with h1 | h1
    · exact h i h1
    · obtain rfl : i = k := by omega
      exact hn
  | some j =>
    obtain ⟨h1, u, h2, h3⟩ := h
    refine ⟨by omega, u, h2, fun i v hi hv => ?_⟩
    rcases Nat.lt_or_ge i k with h4 | h4
    · exact h3 i v h4 hv
    · obtain rfl : i = k := by omega
      rw [hn] at hv; cases hv
theorem ltG_irrefl (u : Tg) : ¬ ltG u u := ltT_irrefl _
theorem best_first {rs : List (List En)} {c : Nat → Nat} {k : Nat} {u : Tg} (h : Best rs c k none) (hu : frT rs c k = some u) : Best rs c (k + 1) (some k) := by
  refine ⟨by omega, u, hu, fun i v hi hv => ?_⟩
  rcases Nat.lt_or_ge i k with h4 | h4
  · rw [h i h4] at hv; cases hv
  · obtain rfl : i = k := by omega
    rw [hu] at hv
    obtain rfl : u = v := by simpa using hv
    exact ltG_irrefl _
theorem best_less {rs : List (List En)} {c : Nat → Nat} {k j : Nat} {u v : Tg} (h : Best rs c k (some j)) (hu : frT rs c k = some u) (hv : frT rs c j = some v) (hl : ltK u.1.1 v.1.1) : Best rs c (k + 1) (some k) := by
  obtain ⟨h1, v', h2, h3⟩ := h
  rw [hv] at h2
  obtain rfl : v = v' := by simpa using h2
  refine ⟨by omega, u, hu, fun i x hi hx hlt => ?_⟩
  rcases Nat.lt_or_ge i k with h4 | h4
  · refine h3 i x h4 hx ?_
    rcases hlt with q | ⟨q, _⟩
    · exact .inl (ltK_trans q hl)
    · exact .inl (by rw [q]; exact hl)
  · obtain rfl : i = k := by omega
    rw [hu] at hx
    obtain rfl : u = x := by simpa using hx
    exact ltG_irrefl _ hlt
theorem best_keep {rs : List (List En)} {c : Nat → Nat} {k j : Nat} {u v : Tg} (h : Best rs c k (some j)) (hu : frT rs c k = some u) (hv : frT rs c j = some v) (hl : ¬ ltK u.1.1 v.1.1) : Best rs c (k + 1) (some j) := by
  obtain ⟨h1, v', h2, h3⟩ := h
  rw [hv] at h2
  obtain rfl : v = v' := by simpa using h2
  refine ⟨by omega, v, hv, fun i x hi hx hlt => ?_⟩
  rcases Nat.lt_or_ge i k with h4 | h4
  · exact h3 i x h4 hx hlt
  · obtain rfl : i = k := by omega
    rw [hu] at hx
    obtain rfl : u = x := by simpa using hx
    obtain ⟨_, _, e1⟩ := frT_inv hu
    obtain ⟨_, _, e2⟩ := frT_inv hv
    rcases hlt with q | ⟨_, q⟩
    · exact hl q
    · rw [e1, e2] at q
      simp only at q
      omega
/-- Nothing is left. -/
theorem best_nil {rs : List (List En)} (h0 : rowsF rs = 0) {D T : List Tg} (hs : seqF rs = D ++ T) (h : Best rs (cntD D) rs.length none) : T = [] := by
  cases T with
  | nil => rfl
  | cons t T =>
    obtain ⟨hn, hc, _⟩ := once_at h0 hs
    have := h t.1.2 hn
    rw [frT_some hn hc] at this
    cases this
/-- The least front is what is told next. -/
theorem best_cons {rs : List (List En)} (h0 : rowsF rs = 0) {D T : List Tg} (hs : seqF rs = D ++ T) {j : Nat} (h : Best rs (cntD D) rs.length (some j)) : ∃ t T', T = t :: T' ∧ t.1.2 = j := by
  obtain ⟨_, u, hu, h3⟩ := h
  obtain ⟨hm, hj⟩ := frT_mem h0 hs hu
  cases T with
  | nil => cases hm
  | cons t T =>
    refine ⟨t, T, rfl, ?_⟩
    obtain ⟨hn, hc, he⟩ := once_at h0 hs
    have ht : frT rs (cntD D) t.1.2 = some t := by
      rw [frT_some hn hc]
      simp only [he]
    have h4 := h3 t.1.2 t hn ht
    rcases List.mem_cons.1 hm with e | hm
    · rw [← e]; exact hj
    · have h1 := seqF_pw h0
      rw [hs] at h1
      exact absurd ((List.pairwise_cons.1 (List.pairwise_append.1 h1).2.1).1 u hm) h4
end Go.Proofs.Ytkifnpaenhpndaa
