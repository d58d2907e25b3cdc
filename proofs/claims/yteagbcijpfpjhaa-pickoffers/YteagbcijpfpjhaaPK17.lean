/- What comes of a task that is offered: plain facts. -/
import Derived.Test.YteagbcijpfpjhaaPK16
namespace Go.Proofs.Yteagbcijpfpjhaa
open Go.RowKit Go.Shelf

/-- The count of the run that has a file. -/
def cntO (L : List Rn) (f : Int) : Int := ((L.find? fun r => decide (r.f = f)).map Rn.c).getD 0
def sumC (L : List Rn) (fs : List Int) : Int := (fs.map (cntO L)).sum
def Uq (L : List Rn) : Prop := L.Pairwise (fun a b => a.f ≠ b.f)
theorem Uq.eq {L : List Rn} (h : Uq L) {a b : Rn} (ha : a ∈ L) (hb : b ∈ L) (e : a.f = b.f) : a = b := by
  obtain ⟨i, hi, rfl⟩ := List.getElem_of_mem ha
  obtain ⟨j, hj, rfl⟩ := List.getElem_of_mem hb
  have hp := List.pairwise_iff_getElem.1 h
  rcases Nat.lt_trichotomy i j with h1 | h1 | h1
  · exact absurd e (hp i j hi hj h1)
  · subst h1; rfl
  · exact absurd e.symm (hp j i hj hi h1)
theorem okR_uq {L : List Rn} (h : okR L) : Uq L := h.2.2.imp (fun h => h.1)
theorem cntO_eq {L : List Rn} (hu : Uq L) {r : Rn} (hr : r ∈ L) : cntO L r.f = r.c := by
  unfold cntO
  cases hf : L.find? (fun x => decide (x.f = r.f)) with
  | none => exact absurd (List.find?_eq_none.1 hf r hr) (by simp)
  | some x =>
    have h1 := List.find?_some hf
    have h2 := List.mem_of_find?_eq_some hf
    have : x = r := hu.eq h2 hr (by simpa using h1)
    subst this
    rfl
theorem mem_erase {L : List Rn} (hu : Uq L) {k : Nat} (hk : k < L.length) (r : Rn) : r ∈ L.eraseIdx k ↔ r ∈ L ∧ r.f ≠ L[k].f := by
  have hp := List.pairwise_iff_getElem.1 hu
  rw [List.mem_eraseIdx_iff_getElem]
  constructor
  · rintro ⟨i, hi, hik, rfl⟩
    refine ⟨List.getElem_mem _, fun e => ?_⟩
    rcases Nat.lt_or_gt_of_ne hik with h | h
    · exact hp i k hi hk h e
    · exact hp k i hk hi h e.symm
  · rintro ⟨hr, hne⟩
    obtain ⟨i, hi, rfl⟩ := List.getElem_of_mem hr
    exact ⟨i, hi, fun e => hne (by subst e; rfl), rfl⟩
theorem outF_spec : ∀ (fs : List Int) (L : List Rn) (c : Int), Uq L → fs.Nodup → (∀ f ∈ fs, ∃ r ∈ L, r.f = f) → 0 ≤ c → (∀ r ∈ L, 0 ≤ r.c) →
    ∃ M d, outF L c fs = some (M, d) ∧ (∀ r, r ∈ M ↔ r ∈ L ∧ r.f ∉ fs) ∧ 0 ≤ d ∧ (c ≤ sumC L fs → d = 0)
  | [], L, c, _, _, _, hc, _ => ⟨L, c, rfl, by simp, hc, fun h => by simp [sumC] at h; omega⟩
  | f :: fs, L, c, hu, hn, hm, hc, hp => by
    obtain ⟨r, hr, hrf⟩ := hm f (List.mem_cons_self ..)
    obtain ⟨i, hi, rfl⟩ := List.getElem_of_mem hr
    have hpw := List.pairwise_iff_getElem.1 hu
    have hfirst : ∀ j (hj : j < L.length), j < i → L[j].f ≠ f := fun j hj hji e => hpw j i hj hi hji (by rw [e, hrf])
    have hn2 := List.nodup_cons.1 hn
    have hu2 : Uq (L.eraseIdx i) := List.Pairwise.sublist (List.eraseIdx_sublist _ _) hu
    have hm2 : ∀ g ∈ fs, ∃ r ∈ L.eraseIdx i, r.f = g := by
      intro g hg
      obtain ⟨x, hx, hxf⟩ := hm g (List.mem_cons_of_mem _ hg)
      refine ⟨x, (mem_erase hu hi x).2 ⟨hx, fun e => ?_⟩, hxf⟩
      rw [hxf, hrf] at e
      subst e
      exact hn2.1 hg
    have hci := hp L[i] hr
    obtain ⟨M, d, h1, h2, h3, h4⟩ := outF_spec fs (L.eraseIdx i) (c - min c L[i].c) hu2 hn2.2 hm2 (by omega) (fun r hr => hp r (List.mem_of_mem_eraseIdx hr))
    refine ⟨M, d, by rw [outF_some hi hrf hfirst]; exact h1, fun x => ?_, h3, fun hs => h4 ?_⟩
    · rw [h2, mem_erase hu hi, List.mem_cons, hrf]
      constructor
      · rintro ⟨⟨a1, a2⟩, a3⟩; exact ⟨a1, fun h => h.elim a2 a3⟩
      · rintro ⟨a1, a2⟩; exact ⟨⟨a1, fun h => a2 (.inl h)⟩, fun h => a2 (.inr h)⟩
    · have e1 : sumC L (f :: fs) = L[i].c + sumC L fs := by
        unfold sumC
        rw [List.map_cons, List.sum_cons, ← hrf, cntO_eq hu hr]
      have e2 : sumC (L.eraseIdx i) fs = sumC L fs := by
        unfold sumC
        congr 1
        apply List.map_congr_left
        intro g hg
        obtain ⟨x, hx, rfl⟩ := hm2 g hg
        rw [cntO_eq hu2 hx, cntO_eq hu (List.mem_of_mem_eraseIdx hx)]
      rw [e1] at hs
      rw [e2]
      have h0 : 0 ≤ sumC L fs := by
        unfold sumC
        have : ∀ l : List Int, (∀ g ∈ l, g ∈ fs) → 0 ≤ (l.map (cntO L)).sum := by
          intro l
          induction l with
          | nil => intro _; simp
          | cons g l ih =>
            intro hl
            rw [List.map_cons, List.sum_cons]
            have := ih (fun x hx => hl x (List.mem_cons_of_mem _ hx))
            obtain ⟨x, hx, rfl⟩ := hm2 g (hl g (List.mem_cons_self ..))
            rw [cntO_eq hu (List.mem_of_mem_eraseIdx hx)]
            have := hp x (List.mem_of_mem_eraseIdx hx)
            omega
        exact this fs (fun _ h => h)
      omega
/-- Files of what is offered: each once, each a run's. -/
theorem filF_nodup {L : List Rn} (hu : Uq L) (ls : List Int) : (filF ls L).Nodup := by
  unfold filF
  rw [(srt_perm _).nodup_iff]
  unfold pkF
  rw [List.nodup_iff_pairwise_ne, List.pairwise_map]
  exact List.Pairwise.sublist List.filter_sublist hu
theorem filF_in {L : List Rn} (ls : List Int) : ∀ f ∈ filF ls L, ∃ r ∈ L, r.f = f := by
  intro f hf
  obtain ⟨r, hr, _, h⟩ := mem_filF.1 hf
  exact ⟨r, hr, h⟩
/-- A tree without some runs, and with one new run, if its level is left. -/
theorem okR_new {L M : List Rn} (hL : okR L) (hs : M.Sublist L) (hl : M.length < L.length) {f lv n : Int} (hf : 1 ≤ f) (hl0 : 0 ≤ lv) (hl3 : lv ≤ 3) (hn : 0 < n) (hnf : ∀ r ∈ M, r.f ≠ f) (hlv : 0 < lv → ∀ r ∈ M, r.l ≠ lv) : okR (M ++ [⟨f, lv, n, false⟩]) := by
  refine ⟨by have := hL.1; simp; omega, fun r hr => ?_, ?_⟩
  · rcases List.mem_append.1 hr with h | h
    · exact hL.2.1 r (hs.subset h)
    · simp at h
      subst h
      exact ⟨hf, hl0, hl3, by show 1 ≤ n; omega⟩
  · rw [List.pairwise_append]
    refine ⟨hL.2.2.sublist hs, by simp, fun a ha b hb => ?_⟩
    simp at hb
    subst hb
    exact ⟨hnf a ha, fun ⟨h1, h2⟩ => hlv h1 a ha h2⟩
theorem okR_sub {L M : List Rn} (hL : okR L) (hs : M.Sublist L) : okR M := ⟨Nat.le_trans hs.length_le hL.1, fun r hr => hL.2.1 r (hs.subset hr), hL.2.2.sublist hs⟩
theorem stT_none {L : List Rn} : ∀ {k : Nat}, (stT L k).s = false → stT L k = tkZ ∧ ∀ j : Nat, j < k → renF L (j : Int) = 0
  | 0, _ => ⟨rfl, fun j hj => by omega⟩
  | k + 1, h => by
    rw [stT] at h ⊢
    by_cases hc : (stT L k).s = true
    · rw [if_pos hc] at h
      rw [hc] at h
      cases h
    · rw [if_neg hc] at h ⊢
      have hc' : (stT L k).s = false := by simpa using hc
      obtain ⟨_, ih⟩ := stT_none hc'
      unfold renT at h ⊢
      by_cases hr : renF L (k : Int) = 0
      · rw [if_pos hr]
        refine ⟨rfl, fun j hj => ?_⟩
        rcases Nat.lt_or_ge j k with h9 | h9
        · exact ih j h9
        · obtain rfl : j = k := by omega
          exact hr
      · rw [if_neg hr] at h
        cases h
/-- Nothing is offered: nothing is stale, nothing is full. -/
theorem offT_zero {L : List Rn} (hL : okR L) (h : (offT L).s = false) : offT L = tkZ ∧ (∀ r ∈ L, r.s = false) ∧ ∀ lv, fulF L lv = false := by
  unfold offT at h
  have hf : ∀ (b : Bool) (x y : Tk), x.s = true → (if b then x else y).s = false → b = false := fun b x y hx h => by
    cases b with
    | true => simp at h; rw [hx] at h; cases h
    | false => rfl
  have h0 := hf _ _ _ rfl h
  rw [h0] at h
  simp only [Bool.false_eq_true, if_false] at h
  have h1 := hf _ _ _ rfl h
  rw [h1] at h
  simp only [Bool.false_eq_true, if_false] at h
  have h2 := hf _ _ _ rfl h
  rw [h2] at h
  simp only [Bool.false_eq_true, if_false] at h
  obtain ⟨e, hr⟩ := stT_none h
  have hfu : ∀ lv, fulF L lv = false := by
    intro lv
    by_cases e0 : lv = 0
    · subst e0; exact h0
    · by_cases e1 : lv = 1
      · subst e1; exact h1
      · by_cases e2 : lv = 2
        · subst e2; exact h2
        · simp [fulF, e0, e1, e2]
  refine ⟨?_, fun r hr9 => ?_, hfu⟩
  · unfold offT
    rw [h0, h1, h2]
    simpa using e
  · rcases Bool.eq_false_or_eq_true r.s with hs | hs
    · have ho := hL.2.1 r hr9
      have hlt : r.l.toNat < 4 := by have := ho.2.1; have := ho.2.2.1; omega
      have := hr r.l.toNat hlt
      rw [Int.toNat_of_nonneg ho.2.1] at this
      exact absurd this (renF_le (fun x hx => (hL.2.1 x hx).1) r.l hr9 rfl hs).1
    · exact hs
end Go.Proofs.Yteagbcijpfpjhaa
