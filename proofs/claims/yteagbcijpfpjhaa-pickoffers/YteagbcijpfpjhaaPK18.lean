/- What is offered may be done: plain facts; the counts together. -/
import Derived.Test.YteagbcijpfpjhaaPK17
namespace Go.Proofs.Yteagbcijpfpjhaa
open Go.RowKit Go.Shelf

theorem fulF_has {L : List Rn} {lv : Int} (h : fulF L lv = true) : ∃ r ∈ L, r.l = lv := by
  unfold fulF at h
  split at h
  · rename_i e
    subst e
    have h1 : 0 < (filF [0] L).length := by simp at h; omega
    obtain ⟨x, hx⟩ : ∃ x, x ∈ filF [0] L := ⟨_, List.getElem_mem h1⟩
    obtain ⟨r, hr, hl, _⟩ := mem_filF.1 hx
    exact ⟨r, hr, by simpa using hl⟩
  · split at h
    · rename_i e; subst e
      obtain ⟨r, hr, hp⟩ := List.any_eq_true.1 h
      simp [overP] at hp
      exact ⟨r, hr, hp.1⟩
    · split at h
      · rename_i e; subst e
        obtain ⟨r, hr, hp⟩ := List.any_eq_true.1 h
        simp [overP] at hp
        exact ⟨r, hr, hp.1⟩
      · cases h
theorem lowG_full {L : List Rn} (h : 0 ≤ lowG L 4) : fulF L (lowG L 4) = true := by
  rw [lowG4] at h ⊢
  by_cases h0 : fulF L 0 = true
  · rw [if_pos h0]; exact h0
  · rw [if_neg h0] at h ⊢
    by_cases h1 : fulF L 1 = true
    · rw [if_pos h1]; exact h1
    · rw [if_neg h1] at h ⊢
      by_cases h2 : fulF L 2 = true
      · rw [if_pos h2]; exact h2
      · rw [if_neg h2] at h; omega
theorem okR_apart {L : List Rn} (h : okR L) {a b : Rn} (ha : a ∈ L) (hb : b ∈ L) (e : a.f ≠ b.f) : apart a b := by
  obtain ⟨i, hi, rfl⟩ := List.getElem_of_mem ha
  obtain ⟨j, hj, rfl⟩ := List.getElem_of_mem hb
  have hp := List.pairwise_iff_getElem.1 h.2.2
  rcases Nat.lt_trichotomy i j with h1 | h1 | h1
  · exact hp i j hi hj h1
  · subst h1; exact absurd rfl e
  · exact apart_symm (hp j i hj hi h1)
/-- A task that is offered. -/
structure TkOk (L : List Rn) (T : Tk) : Prop where
  nd : T.fs.Nodup
  nm : ∀ f ∈ T.fs, ∃ r ∈ L, r.f = f
  l0 : 0 ≤ T.lv
  l3 : T.lv ≤ 3
  ne : 0 < T.fs.length
  lv : ∀ r ∈ L, r.f ∉ T.fs → 0 < T.lv → r.l ≠ T.lv
  up : T.fs.Pairwise (fun x y => x < y)
theorem srt_up {l : List Int} (h : l.Nodup) : (srt l).Pairwise (fun x y => x < y) := by
  have h1 := srt_sorted l
  have h2 : (srt l).Nodup := (srt_perm l).nodup_iff.2 h
  rw [List.nodup_iff_pairwise_ne] at h2
  exact h1.imp₂ (fun a b h3 h4 => by omega) h2
theorem off_ok {L : List Rn} (hL : okR L) (h : (offT L).s = true) : TkOk L (offT L) := by
  rcases offT_some h with ⟨h0, h2, e⟩ | ⟨h0, x, hx, hs, e⟩
  · rw [e]
    obtain ⟨r, hr, hl⟩ := fulF_has (lowG_full h0)
    refine ⟨filF_nodup (okR_uq hL) _, filF_in _, by show 0 ≤ lowG L 4 + 1; omega, by show lowG L 4 + 1 ≤ 3; omega, ?_, ?_, ?_⟩
    · exact List.length_pos_of_mem (mem_filF.2 ⟨r, hr, by simp [hl], rfl⟩)
    · intro y hy hf _ e2
      exact hf (mem_filF.2 ⟨y, hy, by simp [e2], rfl⟩)
    · have := filF_nodup (okR_uq hL) [lowG L 4, lowG L 4 + 1]
      unfold filF at this
      exact srt_up ((srt_perm _).nodup_iff.1 this)
  · rw [e]
    have ho := hL.2.1 x hx
    refine ⟨by simp, fun f hf => ⟨x, hx, by simp at hf; exact hf.symm⟩, ho.2.1, ho.2.2.1, by simp, ?_, by simp⟩
    intro y hy hf hp e2
    have hne : y.f ≠ x.f := by simpa using hf
    exact (okR_apart hL hy hx hne).2 ⟨hp, e2⟩
theorem off_step {L : List Rn} (hL : okR L) {T : Tk} (hT : TkOk L T) {f n : Int} (hf : 1 ≤ f) (hn0 : 0 ≤ n) (hn1 : n ≤ sumC L T.fs) (hnf : ∀ r ∈ L, r.f ∉ T.fs → r.f ≠ f) :
    ∃ M, M.Sublist L ∧ (∀ r, r ∈ M ↔ r ∈ L ∧ r.f ∉ T.fs) ∧ M.length + T.fs.length = L.length ∧ aftF L T.fs T.lv f n = some (if 0 < n then M ++ [⟨f, T.lv, n, false⟩] else M) ∧ okR (if 0 < n then M ++ [⟨f, T.lv, n, false⟩] else M) := by
  obtain ⟨M, d, h1, h2, h3, h4⟩ := outF_spec T.fs L n (okR_uq hL) hT.nd hT.nm hn0 (fun r hr => by have := (hL.2.1 r hr).2.2.2; omega)
  obtain ⟨hs, hlen⟩ := outF_sub h1
  have hne := hT.ne
  have hok : okR (if 0 < n then M ++ [⟨f, T.lv, n, false⟩] else M) := by
    by_cases hn : 0 < n
    · rw [if_pos hn]
      exact okR_new hL hs (by omega) hf hT.l0 hT.l3 hn (fun r hr => hnf r ((h2 r).1 hr).1 ((h2 r).1 hr).2) (fun hp r hr => hT.lv r ((h2 r).1 hr).1 ((h2 r).1 hr).2 hp)
    · rw [if_neg hn]
      exact okR_sub hL hs
  refine ⟨M, hs, h2, hlen, ?_, hok⟩
  rw [aft_some ⟨okB_true hL, hf, hn0, hT.l0, hT.l3⟩ h1, if_pos ⟨h4 hn1, fun r hr => hnf r ((h2 r).1 hr).1 ((h2 r).1 hr).2, okB_true hok⟩]
/-- One file's part of the counts together. -/
def stp (r : Rn) (n f : Int) : Int := if f = r.f ∧ r.c < 1099511627776 then n + r.c else n
def togF (L : List Rn) (fs : List Int) : Int := L.foldl (fun n r => fs.foldl (stp r) n) 0
def small (r : Rn) : Bool := decide (r.c < 1099511627776)
theorem stp_fold {fs : List Int} (hn : fs.Nodup) (r : Rn) : ∀ n, fs.foldl (stp r) n = if has fs r.f && small r then n + r.c else n := by
  induction fs with
  | nil => intro n; simp [has]
  | cons f fs ih =>
    intro n
    obtain ⟨h1, h2⟩ := List.nodup_cons.1 hn
    rw [List.foldl_cons, ih h2]
    by_cases e : f = r.f
    · subst e
      have h3 : has fs r.f = false := has_eq (by simpa using h1)
      have h4 : has (r.f :: fs) r.f = true := has_iff.2 (List.mem_cons_self ..)
      rw [h3, h4]
      unfold stp small
      by_cases hc : r.c < 1099511627776
      · simp [hc]
      · simp [hc]
    · have h4 : has (f :: fs) r.f = has fs r.f := has_eq (by rw [List.mem_cons, has_iff]; exact ⟨fun h => h.elim (fun h => absurd h.symm e) id, .inr⟩)
      rw [h4]
      unfold stp
      simp [e]
theorem togF_sum {fs : List Int} (hn : fs.Nodup) (L : List Rn) : ∀ n, L.foldl (fun n r => fs.foldl (stp r) n) n = n + ((L.filter fun r => has fs r.f && small r).map Rn.c).sum := by
  induction L with
  | nil => intro n; simp
  | cons r L ih =>
    intro n
    rw [List.foldl_cons, ih, stp_fold hn, List.filter_cons]
    by_cases h : (has fs r.f && small r) = true
    · rw [if_pos h, if_pos h, List.map_cons, List.sum_cons]; omega
    · rw [if_neg h, if_neg h]
theorem sum_erase (g : Int → Int) : ∀ (fs : List Int) (a : Int), a ∈ fs → (fs.map g).sum = g a + ((fs.erase a).map g).sum
  | [], a, h => by simp at h
  | f :: fs, a, h => by
    by_cases e : f = a
    · subst e; simp
    · rw [List.erase_cons_tail (by simpa using e), List.map_cons, List.sum_cons, List.map_cons, List.sum_cons, sum_erase g fs a (by rcases List.mem_cons.1 h with h | h; exact absurd h.symm e; exact h)]
      omega
theorem sum_le : ∀ (L : List Rn) (fs : List Int), Uq L → fs.Nodup → (∀ r ∈ L, 0 ≤ r.c) → ((L.filter fun r => has fs r.f && small r).map Rn.c).sum ≤ sumC L fs
  | [], fs, _, _, _ => by
    have : ∀ l : List Int, (l.map (cntO [])).sum = 0 := by
      intro l
      induction l with
      | nil => rfl
      | cons a l ih => rw [List.map_cons, List.sum_cons, ih]; rfl
    simp [sumC, this]
  | r :: L, fs, hu, hn, hp => by
    obtain ⟨hu1, hu2⟩ := List.pairwise_cons.1 hu
    have hc0 := hp r (List.mem_cons_self ..)
    have hp2 : ∀ x ∈ L, 0 ≤ x.c := fun x hx => hp x (List.mem_cons_of_mem _ hx)
    have hco : ∀ g, g ≠ r.f → cntO (r :: L) g = cntO L g := by
      intro g hg
      unfold cntO
      rw [List.find?_cons_of_neg (by simpa using fun e => hg e.symm)]
    by_cases hin : r.f ∈ fs
    · have ih := sum_le L (fs.erase r.f) hu2 (hn.erase _) hp2
      have e1 : sumC (r :: L) fs = r.c + sumC L (fs.erase r.f) := by
        unfold sumC
        rw [sum_erase _ fs r.f hin, cntO_eq hu (List.mem_cons_self ..)]
        congr 2
        apply List.map_congr_left
        intro g hg
        exact hco g (fun e => by subst e; exact (List.Nodup.not_mem_erase hn) hg)
      have e2 : (L.filter fun x => has fs x.f && small x) = L.filter fun x => has (fs.erase r.f) x.f && small x := by
        apply List.filter_congr
        intro x hx
        have hne : x.f ≠ r.f := fun e => hu1 x hx e.symm
        have : has fs x.f = has (fs.erase r.f) x.f := has_eq (by rw [has_iff, List.mem_erase_of_ne hne])
        rw [this]
      rw [e1, List.filter_cons, e2]
      split
      · rw [List.map_cons, List.sum_cons]; omega
      · omega
    · have ih := sum_le L fs hu2 hn hp2
      have e1 : sumC (r :: L) fs = sumC L fs := by
        unfold sumC
        congr 1
        apply List.map_congr_left
        intro g hg
        exact hco g (fun e => by subst e; exact hin hg)
      have h3 : has fs r.f = false := has_eq (by simpa using hin)
      rw [e1, List.filter_cons, h3]
      simpa using ih
theorem tog_le {L : List Rn} {fs : List Int} (hu : Uq L) (hn : fs.Nodup) (hp : ∀ r ∈ L, 0 ≤ r.c) : togF L fs ≤ sumC L fs := by
  unfold togF
  rw [togF_sum hn]
  have := sum_le L fs hu hn hp
  omega
theorem stp_bnd (r : Rn) (hr : 0 ≤ r.c) (n f : Int) : n ≤ stp r n f ∧ stp r n f ≤ n + 1099511627776 := by
  unfold stp
  split
  · rename_i h
    have := h.2
    omega
  · omega
end Go.Proofs.Yteagbcijpfpjhaa
