/- What is known of a key in all rows together. -/
import Derived.Test.YtdamlnpfpfpeeaaMG17
namespace Go.Proofs.Ytdamlnpfpfpeeaa

theorem mrg_z (a : Ag) : mrg agZ a = a := by unfold mrg agZ; simp
/-- What is known of a key, one behind the other. -/
def knE (s : Ag) (M : List En) (k : Ks) : Ag := M.foldl (fun s x => if x.1 = k then mrg s x.2 else s) s
def hasE (M : List En) (k : Ks) : Bool := M.any fun x => decide (x.1 = k)
def knT (T : List Tg) (k : Ks) : Ag := T.foldl (fun s t => if t.1.1 = k then mrg s t.2 else s) agZ
theorem knT_snoc (T : List Tg) (t : Tg) (k : Ks) : knT (T ++ [t]) k = if t.1.1 = k then mrg (knT T k) t.2 else knT T k := by unfold knT; rw [List.foldl_append]; rfl
theorem knT_none : ∀ (T : List Tg) (k : Ks), (∀ t ∈ T, t.1.1 ≠ k) → knT T k = agZ := by
  refine snoc_ind ?_ ?_
  · intro k _; rfl
  · intro T t ih k h
    rw [knT_snoc, if_neg (h t (by simp))]
    exact ih k (fun x hx => h x (List.mem_append_left _ hx))
/-- Each entry knows what all tags of its key know; each tag's key is there. -/
theorem grp_kn : ∀ D : List Tg, D.Pairwise ltG → (∀ t ∈ D, rightB t.2 = true ∧ CnOk t.2) → (∀ x ∈ grpG D, x.2 = knT D x.1) ∧ ∀ t ∈ D, ∃ x ∈ grpG D, x.1 = t.1.1 := by
  refine snoc_ind ?_ ?_
  · intro _ _
    exact ⟨fun x hx => (by cases hx), fun t ht => (by cases ht)⟩
  · intro D t ih hp hr
    have hp0 := hp
    rw [List.pairwise_append] at hp
    obtain ⟨i1, i2⟩ := ih hp.1 (fun x hx => hr x (List.mem_append_left _ hx))
    have hg := grp_all D hp.1 (fun x hx => hr x (List.mem_append_left _ hx))
    have hnd : (keysE (grpG D)).Nodup := hg.so.imp (fun h => ltK_ne h)
    by_cases hc : ∃ h0 : 0 < (grpG D).length, ((grpG D)[(grpG D).length - 1]'(by omega)).1 = t.1.1
    · obtain ⟨h0, h1⟩ := hc
      have e := addG_same h0 h1
      rw [← grpG_snoc] at e
      constructor
      · intro x hx
        rw [e] at hx
        obtain ⟨j, hj, rfl⟩ := List.getElem_of_mem hx
        rw [List.getElem_set]
        rw [List.length_set] at hj
        by_cases ej : (grpG D).length - 1 = j
        · rw [if_pos ej, knT_snoc, if_pos rfl]
          have := i1 _ (List.getElem_mem (show (grpG D).length - 1 < (grpG D).length by omega))
          rw [h1] at this
          rw [← this]
        · rw [if_neg ej, knT_snoc, if_neg]
          · exact i1 _ (List.getElem_mem hj)
          · intro ek
            have h5 := List.pairwise_iff_getElem.1 hnd j ((grpG D).length - 1) (by simpa [keysE] using hj) (by simp [keysE]; omega) (by omega)
            simp only [keysE, List.getElem_map] at h5
            exact h5 (ek.symm.trans h1.symm)
      · intro d hd
        have hkeys : keysE (grpG (D ++ [t])) = keysE (grpG D) := by
          rw [e]
          unfold keysE
          rw [List.map_set]
          apply List.ext_getElem
          · simp
          · intro j h3 h4
            rw [List.getElem_set]; split
            · rename_i ej; subst ej; simp [h1]
            · rfl
        have hex : ∃ x ∈ grpG D, x.1 = d.1.1 := by
          rcases List.mem_append.1 hd with hd | hd
          · exact i2 d hd
          · obtain rfl : d = t := by simpa using hd
            exact ⟨_, List.getElem_mem (show (grpG D).length - 1 < (grpG D).length by omega), h1⟩
        obtain ⟨x, hx, hxk⟩ := hex
        have hm : d.1.1 ∈ keysE (grpG (D ++ [t])) := by rw [hkeys]; exact List.mem_map.2 ⟨x, hx, hxk⟩
        obtain ⟨y, hy, hyk⟩ := List.mem_map.1 hm
        exact ⟨y, hy, hyk⟩
    · have e := addG_new (t := t) (E := grpG D) (fun h0 h1 => hc ⟨h0, h1⟩)
      rw [← grpG_snoc] at e
      have hg2 := grp_all (D ++ [t]) hp0 hr
      have hno : ∀ x ∈ grpG D, x.1 ≠ t.1.1 := by
        intro x hx ek
        have h5 := hg2.so
        rw [e] at h5
        unfold keysE at h5
        rw [List.map_append, List.pairwise_append] at h5
        have := h5.2.2 x.1 (List.mem_map.2 ⟨x, hx, rfl⟩) t.1.1 (by simp)
        exact ltK_ne this ek
      constructor
      · intro x hx
        rw [e] at hx
        rcases List.mem_append.1 hx with hx | hx
        · rw [knT_snoc, if_neg (fun ek => hno x hx ek.symm)]
          exact i1 x hx
        · obtain rfl : x = (t.1.1, t.2) := by simpa using hx
          rw [knT_snoc, if_pos rfl, knT_none D t.1.1 (fun d hd ek => by
            obtain ⟨y, hy, hyk⟩ := i2 d hd
            exact hno y hy (hyk.trans ek)), mrg_z]
      · intro d hd
        rw [e]
        rcases List.mem_append.1 hd with hd | hd
        · obtain ⟨x, hx, hxk⟩ := i2 d hd
          exact ⟨x, List.mem_append_left _ hx, hxk⟩
        · obtain rfl : d = t := by simpa using hd
          exact ⟨(d.1.1, d.2), by simp, rfl⟩
theorem fold_filter (T : List Tg) (k : Ks) : ∀ s, T.foldl (fun s t => if t.1.1 = k then mrg s t.2 else s) s = (T.filter fun t => decide (t.1.1 = k)).foldl (fun s t => mrg s t.2) s := by
  induction T with
  | nil => intro s; rfl
  | cons t T ih =>
    intro s
    rw [List.foldl_cons, List.filter_cons]
    by_cases h : t.1.1 = k
    · rw [if_pos h, if_pos (by simpa using h), List.foldl_cons]; exact ih _
    · rw [if_neg h, if_neg (by simpa using h)]; exact ih _
theorem tags_key_pw : ∀ (rs : List (List En)) (i : Nat) (k : Ks), (∀ r ∈ rs, (keysE r).Pairwise ltK) → ((tagsF i rs).filter fun t => decide (t.1.1 = k)).Pairwise ltG
  | [], _, _, _ => List.Pairwise.nil
  | r :: rs, i, k, h => by
    unfold tagsF
    rw [List.filter_append, List.pairwise_append]
    refine ⟨(tagP_pw (h r (List.mem_cons_self ..))).filter _, tags_key_pw rs (i + 1) k (fun r' hr' => h r' (List.mem_cons_of_mem _ hr')), fun x hx y hy => ?_⟩
    obtain ⟨hx1, hx2⟩ := List.mem_filter.1 hx
    obtain ⟨hy1, hy2⟩ := List.mem_filter.1 hy
    simp only [decide_eq_true_eq] at hx2 hy2
    have h1 := tags_ge rs (i + 1) y hy1
    unfold tagP at hx1
    obtain ⟨z, _, rfl⟩ := List.mem_map.1 hx1
    refine .inr ⟨hx2.trans hy2.symm, ?_⟩
    show i < y.1.2
    omega
theorem knT_seq {rs : List (List En)} (h : rowsF rs = 0) (k : Ks) : knT (seqF rs) k = knT (tagsF 0 rs) k := by
  unfold knT
  rw [fold_filter, fold_filter]
  congr 1
  exact pw_unique ((seqF_pw h).filter _) (tags_key_pw rs 0 k (fun r hr => (rowF_ok (rowsF_ok.1 h r hr)).1)) ((srtG_perm _).filter _)
/-- As the rows stand. -/
def knR (s : Ag) (rs : List (List En)) (k : Ks) : Ag := rs.foldl (fun s r => knE s r k) s
theorem knT_tags : ∀ (rs : List (List En)) (i : Nat) (k : Ks) (s : Ag), (tagsF i rs).foldl (fun s t => if t.1.1 = k then mrg s t.2 else s) s = knR s rs k
  | [], _, _, _ => rfl
  | r :: rs, i, k, s => by
    unfold tagsF
    rw [List.foldl_append, knT_tags rs (i + 1) k]
    have : (tagP (r, i)).foldl (fun s t => if t.1.1 = k then mrg s t.2 else s) s = knE s r k := by
      unfold tagP knE
      rw [List.foldl_map]
    rw [this]; rfl
def hasR (rs : List (List En)) (k : Ks) : Bool := rs.any fun r => hasE r k
/-- Of each key all rows together know what each knows. -/
theorem allF_kn {rs : List (List En)} (h : rowsF rs = 0) (hc : ∀ r ∈ rs, ∀ x ∈ r, CnOk x.2) (k : Ks) : (∀ x ∈ allF rs, x.1 = k → x.2 = knR agZ rs k) ∧ (hasE (allF rs) k = hasR rs k) := by
  obtain ⟨g1, g2⟩ := grp_kn (seqF rs) (seqF_pw h) (fun t ht => by
    obtain ⟨r, hr, hx⟩ := seq_mem t ht
    exact ⟨(rowF_ok (rowsF_ok.1 h r hr)).2 _ hx, hc r hr _ hx⟩)
  constructor
  · intro x hx hk
    have := g1 x hx
    rw [hk, knT_seq h] at this
    rw [this]
    exact knT_tags rs 0 k agZ
  · rw [Bool.eq_iff_iff]
    unfold hasR hasE
    simp only [List.any_eq_true, decide_eq_true_eq]
    constructor
    · rintro ⟨x, hx, rfl⟩
      obtain ⟨r, hr, y, hy, e⟩ := allF_key h hc x hx
      exact ⟨r, hr, y, hy, e.symm⟩
    · rintro ⟨r, hr, x, hx, rfl⟩
      have hmem : ∀ (rs : List (List En)) (i : Nat), r ∈ rs → ∃ t ∈ tagsF i rs, t.1.1 = x.1 := by
        intro rs
        induction rs with
        | nil => intro i hr; cases hr
        | cons r' rs ih =>
          intro i hr
          unfold tagsF
          rcases List.mem_cons.1 hr with rfl | hr
          · exact ⟨((x.1, i), x.2), List.mem_append_left _ (List.mem_map.2 ⟨x, hx, rfl⟩), rfl⟩
          · obtain ⟨t, ht, hk⟩ := ih (i + 1) hr
            exact ⟨t, List.mem_append_right _ ht, hk⟩
      obtain ⟨t, ht, hk⟩ := hmem rs 0 hr
      obtain ⟨y, hy, hyk⟩ := g2 t ((srtG_perm _).mem_iff.2 ht)
      exact ⟨y, hy, hyk.trans hk⟩
end Go.Proofs.Ytdamlnpfpfpeeaa
