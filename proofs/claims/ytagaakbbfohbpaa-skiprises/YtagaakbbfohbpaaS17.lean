/- What is known of a key, behind entries that were put. -/
import Derived.Test.YtagaakbbfohbpaaS16
namespace Go.Proofs.Ytagaakbbfohbpaa
open Go.RowKit

/-- What is known of a key. -/
def lkE (E : List En) (k : Ks) : Option Ag := (E.find? fun x => decide (x.1 = k)).map Prod.snd
def srt (E : List En) : Prop := (keysE E).Pairwise ltK
theorem lkE_app (A B : List En) (k : Ks) : lkE (A ++ B) k = (lkE A k).or (lkE B k) := by
  unfold lkE; rw [List.find?_append]; cases A.find? fun x => decide (x.1 = k) <;> simp
theorem lkE_none {A : List En} {k : Ks} (h : ∀ x ∈ A, x.1 ≠ k) : lkE A k = none := by
  unfold lkE; rw [List.find?_eq_none.2 (fun x hx => by simp [h x hx])]; rfl
theorem lkE_cons (x : En) (A : List En) (k : Ks) : lkE (x :: A) k = if x.1 = k then some x.2 else lkE A k := by
  unfold lkE; rw [List.find?_cons]; by_cases h : x.1 = k <;> simp [h]
theorem pl_len (E : List En) (k : Ks) : plK (keysE E) k ≤ E.length := by have := plK_le (keysE E) k; simpa [keysE] using this
/-- Entries, cut where a key lies. -/
theorem cut_pl {E : List En} (hs : srt E) (k : Ks) : (∀ x ∈ E.take (plK (keysE E) k), ltK x.1 k) ∧ (∀ x ∈ E.drop (plK (keysE E) k), ¬ ltK x.1 k) := by
  have hl : (keysE E).length = E.length := by simp [keysE]
  constructor
  · intro x hx
    obtain ⟨i, hi, rfl⟩ := List.getElem_of_mem hx
    have h1 : i < plK (keysE E) k := by simp at hi; omega
    have h2 : i < E.length := by simp at hi; omega
    have := plK_lt h1 (by omega)
    simpa [keysE] using this
  · intro x hx
    obtain ⟨i, hi, rfl⟩ := List.getElem_of_mem hx
    have h2 : plK (keysE E) k + i < E.length := by simp at hi; omega
    have := plK_ge hs (Nat.le_add_right (plK (keysE E) k) i) (by omega)
    simpa [keysE] using this
theorem putE_cases {E : List En} (hs : srt E) (k : Ks) (a : Ag) :
    (∃ A B b, E = A ++ (k, b) :: B ∧ putE E k a = A ++ (k, mrg b a) :: B ∧ (∀ x ∈ A, ltK x.1 k) ∧ ∀ x ∈ B, ltK k x.1) ∨
    (∃ A B, E = A ++ B ∧ putE E k a = A ++ (k, a) :: B ∧ (∀ x ∈ A, ltK x.1 k) ∧ ∀ x ∈ B, ltK k x.1) := by
  obtain ⟨c1, c2⟩ := cut_pl hs k
  have hle := pl_len E k
  unfold putE
  by_cases h : plK (keysE E) k < E.length
  · rw [dif_pos h]
    generalize plK (keysE E) k = i at *
    have hd : E.drop i = E[i] :: E.drop (i + 1) := List.drop_eq_getElem_cons h
    have hE : E = E.take i ++ E[i] :: E.drop (i + 1) := by rw [← hd, List.take_append_drop]
    have hp : (keysE (E[i] :: E.drop (i + 1))).Pairwise ltK := by
      unfold srt at hs
      rw [hE] at hs
      unfold keysE at hs ⊢
      rw [List.map_append] at hs
      exact (List.pairwise_append.1 hs).2.1
    have hrest : ∀ x ∈ E.drop (i + 1), ltK E[i].1 x.1 := fun x hx => by
      unfold keysE at hp
      rw [List.map_cons, List.pairwise_cons] at hp
      exact hp.1 _ (List.mem_map_of_mem hx)
    by_cases hk : E[i].1 = k
    · rw [if_pos hk]
      refine .inl ⟨E.take i, E.drop (i + 1), E[i].2, ?_, ?_, c1, fun x hx => hk ▸ hrest x hx⟩
      · conv => lhs; rw [hE]
        rw [← hk]
      · rw [List.set_eq_take_append_cons_drop, if_pos h]
    · rw [if_neg hk]
      refine .inr ⟨E.take i, E.drop i, (List.take_append_drop i E).symm, rfl, c1, ?_⟩
      have h0 : ltK k E[i].1 := by
        have := c2 E[i] (by rw [hd]; exact List.mem_cons_self)
        rcases not_ltK.1 this with h1 | h1
        · exact absurd h1 hk
        · exact h1
      intro x hx
      rw [hd] at hx
      rcases List.mem_cons.1 hx with hx | hx
      · subst hx; exact h0
      · exact ltK_trans h0 (hrest x hx)
  · rw [dif_neg h]
    have he : plK (keysE E) k = E.length := by omega
    rw [he, List.take_length] at c1
    exact .inr ⟨E, [], by simp, rfl, c1, fun x hx => by cases hx⟩
theorem putE_srt {E : List En} (hs : srt E) (k : Ks) (a : Ag) : srt (putE E k a) := by
  rcases putE_cases hs k a with ⟨A, B, b, h1, h2, hA, hB⟩ | ⟨A, B, h1, h2, hA, hB⟩
  · rw [h2]
    have e : keysE (A ++ (k, mrg b a) :: B) = keysE E := by rw [h1]; simp [keysE]
    unfold srt; rw [e]; exact hs
  · rw [h2]
    unfold srt keysE at *
    rw [h1, List.map_append] at hs
    obtain ⟨p1, p2, p3⟩ := List.pairwise_append.1 hs
    rw [List.map_append, List.map_cons]
    refine List.pairwise_append.2 ⟨p1, List.pairwise_cons.2 ⟨fun y hy => ?_, p2⟩, fun x hx y hy => ?_⟩
    · obtain ⟨z, hz, rfl⟩ := List.mem_map.1 hy; exact hB z hz
    · rcases List.mem_cons.1 hy with hy | hy
      · subst hy; obtain ⟨z, hz, rfl⟩ := List.mem_map.1 hx; exact hA z hz
      · exact p3 x hx y hy
theorem putE_lk {E : List En} (hs : srt E) (k : Ks) (a : Ag) (k' : Ks) : lkE (putE E k a) k' = if k = k' then some (match lkE E k with | none => a | some b => mrg b a) else lkE E k' := by
  rcases putE_cases hs k a with ⟨A, B, b, h1, h2, hA, hB⟩ | ⟨A, B, h1, h2, hA, hB⟩
  · have n1 : lkE A k = none := lkE_none fun x hx => ltK_ne (hA x hx)
    rw [h2, h1]
    by_cases hk : k = k'
    · subst hk; simp [lkE_app, lkE_cons, n1]
    · simp [lkE_app, lkE_cons, hk]
  · have n1 : lkE A k = none := lkE_none fun x hx => ltK_ne (hA x hx)
    have n2 : lkE B k = none := lkE_none fun x hx => (ltK_ne (hB x hx)).symm
    rw [h2, h1]
    by_cases hk : k = k'
    · subst hk; simp [lkE_app, lkE_cons, n1, n2]
    · simp [lkE_app, lkE_cons, hk]
/-- What comes together of a key. -/
def knE (M : List En) (k : Ks) : Ag := M.foldl (fun s x => if x.1 = k then mrg s x.2 else s) agZ
def hasE (M : List En) (k : Ks) : Bool := M.any fun x => decide (x.1 = k)
theorem knE_snoc (M : List En) (x : En) (k : Ks) : knE (M ++ [x]) k = if x.1 = k then mrg (knE M k) x.2 else knE M k := by simp [knE, List.foldl_append]
theorem hasE_snoc (M : List En) (x : En) (k : Ks) : hasE (M ++ [x]) k = (hasE M k || decide (x.1 = k)) := by simp [hasE, List.any_append]
theorem putL_snoc (E M : List En) (x : En) : putL E (M ++ [x]) = putE (putL E M) x.1 x.2 := by simp [putL, List.foldl_append]
theorem mrg_z (a : Ag) : mrg agZ a = a := by unfold mrg agZ; simp
theorem putL_at (n : Nat) : ∀ M : List En, M.length = n → srt (putL [] M) ∧ ∀ k, lkE (putL [] M) k = (if hasE M k = true then some (knE M k) else none) ∧ (hasE M k = false → knE M k = agZ) := by
  induction n with
  | zero => intro M hM; rw [List.length_eq_zero_iff.1 hM]; exact ⟨List.Pairwise.nil, fun k => ⟨rfl, fun _ => rfl⟩⟩
  | succ n ih =>
    intro M hM
    obtain ⟨M', x, rfl⟩ : ∃ M' x, M = M' ++ [x] := ⟨M.dropLast, M.getLast (by intro h; rw [h] at hM; simp at hM), (List.dropLast_concat_getLast _).symm⟩
    obtain ⟨i1, i2⟩ := ih M' (by simpa using hM)
    rw [putL_snoc]
    refine ⟨putE_srt i1 _ _, fun k => ?_⟩
    obtain ⟨j1, j2⟩ := i2 k
    rw [putE_lk i1, knE_snoc, hasE_snoc]
    by_cases hk : x.1 = k
    · subst hk
      rw [j1]
      cases hh : hasE M' x.1
      · rw [j2 hh]; simp [mrg_z]
      · simp
    · rw [j1]; simp [hk]; exact j2
theorem putL_srt (M : List En) : srt (putL [] M) := (putL_at _ M rfl).1
theorem putL_lk (M : List En) (k : Ks) : lkE (putL [] M) k = if hasE M k = true then some (knE M k) else none := ((putL_at _ M rfl).2 k).1
/-- What Get tells, in the entries' words. -/
theorem gtF_lk {N : List Nd} (hs : srt (ents N)) (k : Ks) : gtF N k = lkE (ents N) k := by
  obtain ⟨c1, c2⟩ := cut_pl hs k
  have hE : (ents N).length = N.length := by simp [ents]
  unfold gtF
  rw [← keys_ents]
  have n1 : lkE ((ents N).take (plK (keysE (ents N)) k)) k = none := lkE_none fun x hx => ltK_ne (c1 x hx)
  have e1 : lkE (ents N) k = lkE ((ents N).drop (plK (keysE (ents N)) k)) k := by
    conv => lhs; rw [← List.take_append_drop (plK (keysE (ents N)) k) (ents N)]
    rw [lkE_app, n1]; rfl
  rw [e1]
  by_cases h : plK (keysE (ents N)) k < N.length
  · rw [dif_pos h]
    generalize plK (keysE (ents N)) k = i at *
    have hi : i < (ents N).length := by omega
    have hd : (ents N).drop i = (ents N)[i] :: (ents N).drop (i + 1) := List.drop_eq_getElem_cons hi
    have hx : (ents N)[i] = (N[i].k, N[i].a) := by simp [ents]
    rw [hd, lkE_cons, hx]
    by_cases hk : N[i].k = k
    · simp [hk]
    · have h0 : ltK k N[i].k := by
        have := c2 (ents N)[i] (by rw [hd]; exact List.mem_cons_self)
        rw [hx] at this
        rcases not_ltK.1 this with h1 | h1
        · exact absurd h1 hk
        · exact h1
      have hp : ∀ x ∈ (ents N).drop (i + 1), ltK N[i].k x.1 := by
        have h3 : (keysE ((ents N).drop i)).Pairwise ltK := by
          unfold srt keysE at hs
          unfold keysE
          exact List.Pairwise.sublist ((List.drop_sublist i _).map _) hs
        rw [hd, hx] at h3
        unfold keysE at h3
        rw [List.map_cons, List.pairwise_cons] at h3
        exact fun x hx => h3.1 _ (List.mem_map_of_mem hx)
      simp only [hk, if_false]
      exact (lkE_none fun x hx => (ltK_ne (ltK_trans h0 (hp x hx))).symm).symm
  · rw [dif_neg h, List.drop_eq_nil_of_le (by omega)]; rfl
end Go.Proofs.Ytagaakbbfohbpaa
