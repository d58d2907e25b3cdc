/- PK18 PK19 PK20, joined. -/
import Derived.Test.YthicmbjiblbcmaaGreatTQ4
namespace Go.Proofs.YthicmbjiblbcmaaGreat
open Go.RowKit Go.Shelf

theorem fulF_has {L : List Rn} {lv : Int} (h : fulF L lv = true) : ∃ r ∈ L, r.l = lv := by
  unfold fulF at h
  split at h
  · rename_i e
    subst e
    have h1 : 0 < (filF [0] L).length := by simp at h; omega
    obtain ⟨x, hx⟩ : ∃ x, x ∈ filF [0] L := ⟨_, List.getElem_mem h1⟩
    obtain ⟨r, hr, hl, _⟩ := mem_filF.1 hx
    exact ⟨r, hr, by simpa using hl⟩
  · split at h
    · rename_i e; subst e
      obtain ⟨r, hr, hp⟩ := List.any_eq_true.1 h
      simp [overP] at hp
      exact ⟨r, hr, hp.1⟩
    · split at h
      · rename_i e; subst e
        obtain ⟨r, hr, hp⟩ := List.any_eq_true.1 h
        simp [overP] at hp
        exact ⟨r, hr, hp.1⟩
      · cases h
theorem lowG_full {L : List Rn} (h : 0 ≤ lowG L 4) : fulF L (lowG L 4) = true := by
  rw [lowG4] at h ⊢
  by_cases h0 : fulF L 0 = true
  · rw [if_pos h0]; exact h0
  · rw [if_neg h0] at h ⊢
    by_cases h1 : fulF L 1 = true
    · rw [if_pos h1]; exact h1
    · rw [if_neg h1] at h ⊢
      by_cases h2 : fulF L 2 = true
      · rw [if_pos h2]; exact h2
      · rw [if_neg h2] at h; omega
theorem okR_apart {L : List Rn} (h : okR L) {a b : Rn} (ha : a ∈ L) (hb : b ∈ L) (e : a.f ≠ b.f) : apart a b := by
  obtain ⟨i, hi, rfl⟩ := List.getElem_of_mem ha
  obtain ⟨j, hj, rfl⟩ := List.getElem_of_mem hb
  have hp := List.pairwise_iff_getElem.1 h.2.2
  rcases Nat.lt_trichotomy i j with h1 | h1 | h1
  · exact hp i j hi hj h1
  · subst h1; exact absurd rfl e
  · exact apart_symm (hp j i hj hi h1)
/-- A task that is offered. -/
structure TkOk (L : List Rn) (T : Tk) : Prop where
  nd : T.fs.Nodup
  nm : ∀ f ∈ T.fs, ∃ r ∈ L, r.f = f
  l0 : 0 ≤ T.lv
  l3 : T.lv ≤ 3
  ne : 0 < T.fs.length
  lv : ∀ r ∈ L, r.f ∉ T.fs → 0 < T.lv → r.l ≠ T.lv
  up : T.fs.Pairwise (fun x y => x < y)
theorem srt_up {l : List Int} (h : l.Nodup) : (srt l).Pairwise (fun x y => x < y) := by
  have h1 := srt_sorted l
  have h2 : (srt l).Nodup := (srt_perm l).nodup_iff.2 h
  rw [List.nodup_iff_pairwise_ne] at h2
  exact h1.imp₂ (fun a b h3 h4 => by omega) h2
theorem off_ok {L : List Rn} (hL : okR L) (h : (offT L).s = true) : TkOk L (offT L) := by
  rcases offT_some h with ⟨h0, h2, e⟩ | ⟨h0, x, hx, hs, e⟩
  · rw [e]
    obtain ⟨r, hr, hl⟩ := fulF_has (lowG_full h0)
    refine ⟨filF_nodup (okR_uq hL) _, filF_in _, by show 0 ≤ lowG L 4 + 1; omega, by show lowG L 4 + 1 ≤ 3; omega, ?_, ?_, ?_⟩
    · exact List.length_pos_of_mem (mem_filF.2 ⟨r, hr, by simp [hl], rfl⟩)
    · intro y hy hf _ e2
      exact hf (mem_filF.2 ⟨y, hy, by simp [e2], rfl⟩)
    · have := filF_nodup (okR_uq hL) [lowG L 4, lowG L 4 + 1]
      unfold filF at this
      exact srt_up ((srt_perm _).nodup_iff.1 this)
  · rw [e]
    have ho := hL.2.1 x hx
    refine ⟨by simp, fun f hf => ⟨x, hx, by simp at hf; exact hf.symm⟩, ho.2.1, ho.2.2.1, by simp, ?_, by simp⟩
    intro y hy hf hp e2
    have hne : y.f ≠ x.f := by simpa using hf
    exact (okR_apart hL hy hx hne).2 ⟨hp, e2⟩
theorem off_step {L : List Rn} (hL : okR L) {T : Tk} (hT : TkOk L T) {f n : Int} (hf : 1 ≤ f) (hn0 : 0 ≤ n) (hn1 : n ≤ sumC L T.fs) (hnf : ∀ r ∈ L, r.f ∉ T.fs → r.f ≠ f) :
    ∃ M, M.Sublist L ∧ (∀ r, r ∈ M ↔ r ∈ L ∧ r.f ∉ T.fs) ∧ M.length + T.fs.length = L.length ∧ aftF L T.fs T.lv f n = some (if 0 < n then M ++ [⟨f, T.lv, n, false⟩] else M) ∧ okR (if 0 < n then M ++ [⟨f, T.lv, n, false⟩] else M) := by
  obtain ⟨M, d, h1, h2, h3, h4⟩ := outF_spec T.fs L n (okR_uq hL) hT.nd hT.nm hn0 (fun r hr => by have := (hL.2.1 r hr).2.2.2; omega)
  obtain ⟨hs, hlen⟩ := outF_sub h1
  have hne := hT.ne
  have hok : okR (if 0 < n then M ++ [⟨f, T.lv, n, false⟩] else M) := by
    by_cases hn : 0 < n
    · rw [if_pos hn]
      exact okR_new hL hs (by omega) hf hT.l0 hT.l3 hn (fun r hr => hnf r ((h2 r).1 hr).1 ((h2 r).1 hr).2) (fun hp r hr => hT.lv r ((h2 r).1 hr).1 ((h2 r).1 hr).2 hp)
    · rw [if_neg hn]
      exact okR_sub hL hs
  refine ⟨M, hs, h2, hlen, ?_, hok⟩
  rw [aft_some ⟨okB_true hL, hf, hn0, hT.l0, hT.l3⟩ h1, if_pos ⟨h4 hn1, fun r hr => hnf r ((h2 r).1 hr).1 ((h2 r).1 hr).2, okB_true hok⟩]
end Go.Proofs.YthicmbjiblbcmaaGreat

/- The contract of law16's together. -/
namespace Go.Proofs.YthicmbjiblbcmaaGreat
open Go.RowKit Go.Shelf

end Go.Proofs.YthicmbjiblbcmaaGreat

/- It ends: plain facts. -/
namespace Go.Proofs.YthicmbjiblbcmaaGreat
open Go.RowKit Go.Shelf

/-- How many tasks there are yet, at most. -/
def mu (L : List Rn) : Nat := L.countP Rn.s + if 0 ≤ lowG L 4 then (3 - lowG L 4).toNat else 0
theorem mu_le (L : List Rn) : mu L ≤ L.length + 3 := by
  unfold mu
  have h1 : L.countP Rn.s ≤ L.length := List.countP_le_length
  have h2 := lowG_bnd L 4 (by omega)
  split <;> omega
theorem fil0_len (L : List Rn) : (filF [0] L).length = L.countP fun r => decide (r.l = 0) := by
  unfold filF
  rw [srt_len]
  unfold pkF
  rw [List.length_map, ← List.countP_eq_length_filter]
  apply List.countP_congr
  intro r _
  simp [has]
theorem countP_lt {p : Rn → Bool} {M L : List Rn} (h : M.Sublist L) {r : Rn} (hr : r ∈ L) (hn : r ∉ M) (hp : p r = true) : M.countP p + 1 ≤ L.countP p := by
  rw [List.countP_eq_length_filter, List.countP_eq_length_filter]
  have hs : (M.filter p).Sublist (L.filter p) := h.filter p
  have hl := hs.length_le
  rcases Nat.lt_or_ge (M.filter p).length (L.filter p).length with h1 | h1
  · omega
  · have e := hs.eq_of_length (by omega)
    have : r ∈ L.filter p := List.mem_filter.2 ⟨hr, hp⟩
    rw [← e] at this
    exact absurd (List.mem_filter.1 this).1 hn
theorem low_none {M : List Rn} (h : ∀ j, fulF M j = false) : lowG M 4 = -1 := by
  have := lowG_bnd M 4 (by omega)
  rcases Int.lt_or_le (lowG M 4) 0 with h1 | h1
  · omega
  · have h2 := lowG_full h1
    rw [h] at h2
    cases h2
theorem low_gt {M : List Rn} {k : Int} (h : ∀ j, 0 ≤ j → j ≤ k → fulF M j = false) : lowG M 4 < 0 ∨ k < lowG M 4 := by
  rcases Int.lt_or_le (lowG M 4) 0 with h1 | h1
  · exact .inl h1
  · rcases Int.lt_or_le k (lowG M 4) with h2 | h2
    · exact .inr h2
    · have h3 := lowG_full h1
      rw [h _ h1 h2] at h3
      cases h3
theorem low_min {L : List Rn} (h : 0 ≤ lowG L 4) : ∀ j, 0 ≤ j → j < lowG L 4 → fulF L j = false := by
  intro j h0 h1
  rw [lowG4] at h h1
  by_cases e0 : fulF L 0 = true
  · rw [if_pos e0] at h1; omega
  · rw [if_neg e0] at h h1
    have e0' : fulF L 0 = false := by simpa using e0
    by_cases e1 : fulF L 1 = true
    · rw [if_pos e1] at h1
      have : j = 0 := by omega
      subst this; exact e0'
    · rw [if_neg e1] at h h1
      have e1' : fulF L 1 = false := by simpa using e1
      by_cases e2 : fulF L 2 = true
      · rw [if_pos e2] at h1
        have : j = 0 ∨ j = 1 := by omega
        rcases this with rfl | rfl
        · exact e0'
        · exact e1'
      · rw [if_neg e2] at h; omega
theorem low_neg {L : List Rn} (h : lowG L 4 = -1) : ∀ j, fulF L j = false := by
  intro j
  rw [lowG4] at h
  by_cases e0 : fulF L 0 = true
  · rw [if_pos e0] at h; omega
  · rw [if_neg e0] at h
    by_cases e1 : fulF L 1 = true
    · rw [if_pos e1] at h; omega
    · rw [if_neg e1] at h
      by_cases e2 : fulF L 2 = true
      · rw [if_pos e2] at h; omega
      · by_cases h0 : j = 0
        · subst h0; simpa using e0
        · by_cases h1 : j = 1
          · subst h1; simpa using e1
          · by_cases h2 : j = 2
            · subst h2; simpa using e2
            · simp [fulF, h0, h1, h2]
/-- What is full in what comes was full, or it is the new run's level. -/
theorem fulF_from {L M M' : List Rn} {x : Rn} (hs : M.Sublist L) (hM' : M' = M ++ [x] ∨ M' = M) {j : Int} (h0 : fulF L j = false) (h1 : x.l = j → j = 0 → M.countP (fun r => decide (r.l = 0)) + 1 ≤ L.countP (fun r => decide (r.l = 0))) (h2 : x.l = j → j = 1 → ¬ 64 < x.c) (h3 : x.l = j → j = 2 → ¬ 256 < x.c) : fulF M' j = false := by
  have hmem : ∀ r ∈ M', r = x ∨ r ∈ L := by
    intro r hr
    rcases hM' with rfl | rfl
    · rcases List.mem_append.1 hr with h | h
      · exact .inr (hs.subset h)
      · simp at h; exact .inl h
    · exact .inr (hs.subset hr)
  have hany : ∀ lv m, (x.l = lv → ¬ m < x.c) → L.any (overP lv m) = false → M'.any (overP lv m) = false := by
    intro lv m hx hL
    rw [List.any_eq_false] at hL ⊢
    intro r hr
    rcases hmem r hr with rfl | h
    · unfold overP
      intro h
      simp at h
      exact hx h.1 h.2
    · exact hL r h
  unfold fulF at h0 ⊢
  by_cases e0 : j = 0
  · rw [if_pos e0] at h0 ⊢
    rw [fil0_len] at h0 ⊢
    have hc : M.countP (fun r => decide (r.l = 0)) ≤ L.countP (fun r => decide (r.l = 0)) := hs.countP_le
    have h9 : ¬ 1 < L.countP (fun r => decide (r.l = 0)) := by simpa using h0
    have : M'.countP (fun r => decide (r.l = 0)) ≤ 1 := by
      rcases hM' with rfl | rfl
      · rw [List.countP_append, List.countP_singleton]
        split
        · rename_i hx
          have := h1 (by rw [e0]; simpa using hx) e0
          omega
        · omega
      · omega
    simp
    omega
  · rw [if_neg e0] at h0 ⊢
    by_cases e1 : j = 1
    · rw [if_pos e1] at h0 ⊢
      exact hany 1 64 (fun h => h2 (by rw [h, e1]) e1) h0
    · rw [if_neg e1] at h0 ⊢
      by_cases e2 : j = 2
      · rw [if_pos e2] at h0 ⊢
        exact hany 2 256 (fun h => h3 (by rw [h, e2]) e2) h0
      · rw [if_neg e2]
theorem mu_step {L : List Rn} (hL : okR L) (hs : (offT L).s = true) {f n : Int} (hn1 : n ≤ sumC L (offT L).fs) {M : List Rn} (hsub : M.Sublist L) (hmem : ∀ r, r ∈ M ↔ r ∈ L ∧ r.f ∉ (offT L).fs) {M' : List Rn} (hM' : M' = if 0 < n then M ++ [⟨f, (offT L).lv, n, false⟩] else M) : mu M' + 1 ≤ mu L := by
  have hM2 : M' = M ++ [⟨f, (offT L).lv, n, false⟩] ∨ M' = M := by
    rw [hM']
    split
    · exact .inl rfl
    · exact .inr rfl
  have hst : M'.countP Rn.s ≤ M.countP Rn.s := by
    rcases hM2 with rfl | rfl
    · rw [List.countP_append, List.countP_singleton]; simp
    · exact Nat.le_refl _
  have hst2 : M.countP Rn.s ≤ L.countP Rn.s := hsub.countP_le
  rcases offT_some hs with ⟨h0, h2, e⟩ | ⟨h0, x, hx, hxs, e⟩
  · have hfu : ∀ j, 0 ≤ j → j ≤ lowG L 4 → fulF M' j = false := by
      intro j j0 j1
      rcases Int.lt_or_le j (lowG L 4) with hlt | hge
      · have hne : (offT L).lv ≠ j := by rw [e]; show lowG L 4 + 1 ≠ j; omega
        exact fulF_from hsub hM2 (low_min h0 j j0 hlt) (fun h => absurd h hne) (fun h => absurd h hne) (fun h => absurd h hne)
      · have ej : j = lowG L 4 := by omega
        rcases Bool.eq_false_or_eq_true (fulF M' j) with h9 | h9
        · obtain ⟨r, hr, hl⟩ := fulF_has h9
          exfalso
          rcases hM2 with rfl | rfl
          · rcases List.mem_append.1 hr with h | h
            · have := (hmem r).1 h
              rw [e] at this
              exact this.2 (mem_filF.2 ⟨r, this.1, by simp [hl, ej], rfl⟩)
            · simp at h
              subst h
              rw [e] at hl
              have : lowG L 4 + 1 = j := hl
              omega
          · have := (hmem r).1 hr
            rw [e] at this
            exact this.2 (mem_filF.2 ⟨r, this.1, by simp [hl, ej], rfl⟩)
        · exact h9
    have hb := lowG_bnd M' 4 (by omega)
    unfold mu
    rw [if_pos h0]
    rcases low_gt hfu with h9 | h9
    · rw [if_neg (by omega)]; omega
    · rw [if_pos (by omega)]; omega
  · have hxn : x ∉ M := fun h => by
      have := (hmem x).1 h
      rw [e] at this
      exact this.2 (by simp)
    have hcnt : sumC L (offT L).fs = x.c := by
      rw [e]
      unfold sumC
      simp [cntO_eq (okR_uq hL) hx]
    have hnf := low_neg h0
    have hlv : (offT L).lv = x.l := by rw [e]
    have hfu : ∀ j, fulF M' j = false := by
      intro j
      refine fulF_from hsub hM2 (hnf j) (fun h1 h2 => ?_) (fun h1 h2 h3 => ?_) (fun h1 h2 h3 => ?_)
      · refine countP_lt hsub hx hxn ?_
        have : x.l = 0 := by rw [← hlv]; exact h1.trans h2
        simpa using this
      · have h5 : 64 < n := h3
        have h6 : x.l = 1 := by rw [← hlv]; exact h1.trans h2
        have h4 := hnf 1
        unfold fulF at h4
        rw [if_neg (by decide), if_pos rfl, List.any_eq_false] at h4
        have h7 : overP 1 64 x = true := by simp [overP, h6]; omega
        exact h4 x hx h7
      · have h5 : 256 < n := h3
        have h6 : x.l = 2 := by rw [← hlv]; exact h1.trans h2
        have h4 := hnf 2
        unfold fulF at h4
        rw [if_neg (by decide), if_neg (by decide), if_pos rfl, List.any_eq_false] at h4
        have h7 : overP 2 256 x = true := by simp [overP, h6]; omega
        exact h4 x hx h7
    have hc := countP_lt (p := Rn.s) hsub hx hxn hxs
    unfold mu
    rw [low_none hfu]
    rw [if_neg (by omega)]
    omega
end Go.Proofs.YthicmbjiblbcmaaGreat

/- Plain arithmetic of numbers of 128 binary digits, told by their upper half (with sign) and lower half: no program in sight. -/
namespace Go.Proofs.YthicmbjiblbcmaaGreat
open Go.RowKit

end Go.Proofs.YthicmbjiblbcmaaGreat
