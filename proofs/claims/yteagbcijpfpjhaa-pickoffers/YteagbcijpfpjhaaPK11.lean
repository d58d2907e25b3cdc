/- Full; what is offered: plain facts. -/
import Derived.Test.YteagbcijpfpjhaaPK10
namespace Go.Proofs.Yteagbcijpfpjhaa
open Go.RowKit Go.Shelf

def FulB (L : List Rn) (lv : Int) : Bool := okB L && decide (0 ≤ lv ∧ lv ≤ 3) && fulF L lv
set_option maxRecDepth 100000 in
theorem Full_any (v : Value) (L : List Rn) (lv : Int) (w : World) (hR : NReads w v L) : Calls Try.prog 15 #[v, .int .i64 lv] w fun e w' => e = .returned (.bool (FulB L lv)) ∧ Below w.heap.size w w' := by
  have HR : Hid (NReads w v L) := hR
  obtain ⟨a, cap, rfl, hl1, hl2⟩ := hR.form
  clear hR
  obtain ⟨q, Hq⟩ := hid_ex (FulB L lv)
  obtain ⟨o, Ho⟩ := hid_ex (okB L)
  rw [← Hq.out]
  go_enter Try.func15, Try.ntmps15
  go_wp2_with fail
  refine (right_any _ L _ HR.out).mono ?_
  rw [← Ho.out]
  rintro e w1 ⟨rfl, hb1⟩
  have HB1 : Hid (Below w.heap.size w w1) := hb1
  clear hb1
  cases o with
  | false =>
    go_wp2_with fail
    go_ret
    refine ⟨?_, HB1.out⟩
    rw [Hq.out, FulB, ← Ho.out]
    rfl
  | true =>
    have h64 : L.length ≤ 64 := (okB_iff.1 Ho.out.symm).1
    go_wp2_with fail
    refine (isLevel_any _ _).mono ?_
    by_cases hl : 0 ≤ lv ∧ lv ≤ 3
    · rw [decide_eq_true hl]
      rintro e w2 ⟨rfl, hw2⟩
      subst w2
      go_wp2_with fail
      refine (full_any _ L lv _ (HR.out.below HB1.out) h64 hl.1 hl.2).mono ?_
      rintro e w3 ⟨rfl, hb3⟩
      have HB3 : Hid (Below w.heap.size w w3) := HB1.out.trans (hb3.mono HB1.out.size)
      have HE : Hid (q = fulF L lv) := by
        unfold Hid
        rw [Hq.out, FulB, ← Ho.out, decide_eq_true hl]
        rfl
      clear hb3 hl
      generalize fulF L lv = z at *
      go_wp2_with fail
      go_ret
      exact ⟨by rw [HE.out]; rfl, HB3.out⟩
    · rw [decide_eq_false hl]
      rintro e w2 ⟨rfl, hw2⟩
      subst w2
      have HE : Hid (q = false) := by
        unfold Hid
        rw [Hq.out, FulB, decide_eq_false hl]
        simp
      clear hl
      go_wp2_with fail
      go_ret
      exact ⟨by rw [HE.out]; rfl, HB1.out⟩
/-- The lowest full level of the last d ones; -1: none is. -/
def lowG (L : List Rn) : Nat → Int
  | 0 => -1
  | d + 1 => if fulF L (3 - (d : Int)) then 3 - (d : Int) else lowG L d
theorem lowG4 (L : List Rn) : lowG L 4 = if fulF L 0 then 0 else if fulF L 1 then 1 else if fulF L 2 then 2 else -1 := by
  have h3 : fulF L 3 = false := by simp [fulF]
  simp [lowG, h3]
theorem lowG_bnd (L : List Rn) (d : Nat) (hd : d ≤ 4) : -1 ≤ lowG L d ∧ lowG L d ≤ 3 := by
  induction d with
  | zero => simp [lowG]
  | succ d ih =>
    have := ih (by omega)
    unfold lowG
    split
    · omega
    · exact this
theorem mem_filF {ls : List Int} {L : List Rn} {x : Int} : x ∈ filF ls L ↔ ∃ r ∈ L, r.l ∈ ls ∧ r.f = x := by
  unfold filF
  rw [(srt_perm _).mem_iff]
  unfold pkF
  simp [has, and_assoc]
/-- Of a tree one run has a file. -/
theorem okR_uniq {L : List Rn} (h : okR L) {a b : Rn} (ha : a ∈ L) (hb : b ∈ L) (e : a.f = b.f) : a = b := by
  obtain ⟨i, hi, rfl⟩ := List.getElem_of_mem ha
  obtain ⟨j, hj, rfl⟩ := List.getElem_of_mem hb
  have hp := List.pairwise_iff_getElem.1 h.2.2
  rcases Nat.lt_trichotomy i j with h1 | h1 | h1
  · exact absurd e (hp i j hi hj h1).1
  · subst h1; rfl
  · exact absurd e.symm (hp j i hj hi h1).1
theorem foldl_stepR (lv : Int) : ∀ (L : List Rn) (m : Int), L.foldl (stepR lv) m = m ∨ ∃ r ∈ L, r.l = lv ∧ r.s = true ∧ L.foldl (stepR lv) m = r.f
  | [], m => .inl rfl
  | r :: L, m => by
    rw [List.foldl_cons]
    rcases foldl_stepR lv L (stepR lv m r) with h | ⟨x, hx, h1, h2, h3⟩
    · rw [h]
      unfold stepR
      split
      · rename_i hc
        exact .inr ⟨r, List.mem_cons_self .., hc.1, hc.2.1, rfl⟩
      · exact .inl rfl
    · exact .inr ⟨x, List.mem_cons_of_mem _ hx, h1, h2, h3⟩
theorem renT_some {L : List Rn} {lv : Int} (h : (renT L lv).s = true) : ∃ r ∈ L, r.l = lv ∧ r.s = true ∧ renT L lv = ⟨[r.f], lv, true⟩ := by
  unfold renT at h ⊢
  split at h
  · simp [tkZ] at h
  · rename_i hn
    rw [if_neg hn]
    rcases foldl_stepR lv L 0 with h0 | ⟨r, hr, h1, h2, h3⟩
    · exact absurd h0 hn
    · refine ⟨r, hr, h1, h2, ?_⟩
      have : renF L lv = r.f := h3
      rw [this]
theorem stT_some {L : List Rn} : ∀ {k : Nat}, (stT L k).s = true → ∃ r ∈ L, r.s = true ∧ stT L k = ⟨[r.f], r.l, true⟩
  | 0, h => by simp [stT, tkZ] at h
  | k + 1, h => by
    rw [stT] at h ⊢
    by_cases hc : (stT L k).s = true
    · rw [if_pos hc]
      exact stT_some hc
    · rw [if_neg hc] at h ⊢
      obtain ⟨r, hr, h1, h2, h3⟩ := renT_some h
      exact ⟨r, hr, h2, by rw [h3, h1]⟩
/-- What is offered, either way. -/
theorem offT_some {L : List Rn} (h : (offT L).s = true) : (0 ≤ lowG L 4 ∧ lowG L 4 ≤ 2 ∧ offT L = ⟨filF [lowG L 4, lowG L 4 + 1] L, lowG L 4 + 1, true⟩) ∨ (lowG L 4 = -1 ∧ ∃ r ∈ L, r.s = true ∧ offT L = ⟨[r.f], r.l, true⟩) := by
  rw [lowG4]
  unfold offT at h ⊢
  by_cases h0 : fulF L 0 = true
  · rw [if_pos h0, if_pos h0]; exact .inl ⟨by omega, by omega, rfl⟩
  · rw [if_neg h0, if_neg h0]
    rw [if_neg h0] at h
    by_cases h1 : fulF L 1 = true
    · rw [if_pos h1, if_pos h1]; exact .inl ⟨by omega, by omega, rfl⟩
    · rw [if_neg h1, if_neg h1]
      rw [if_neg h1] at h
      by_cases h2 : fulF L 2 = true
      · rw [if_pos h2, if_pos h2]; exact .inl ⟨by omega, by omega, rfl⟩
      · rw [if_neg h2, if_neg h2]
        rw [if_neg h2] at h
        exact .inr ⟨rfl, stT_some h⟩
theorem has_eq {l : List Int} {x : Int} {b : Bool} (h : x ∈ l ↔ b = true) : has l x = b := by
  cases b with
  | true => exact has_iff.2 (h.2 rfl)
  | false =>
    rw [Bool.eq_false_iff]
    exact fun e => by have := h.1 (has_iff.1 e); cases this
theorem off_in {L : List Rn} (hok : okR L) (h : (offT L).s = true) (r : Rn) (hr : r ∈ L) :
    (0 ≤ lowG L 4 → has (offT L).fs r.f = (decide (r.l = lowG L 4) || decide (r.l = lowG L 4 + 1))) ∧ (lowG L 4 < 0 → has (offT L).fs r.f = true → r.s = true ∧ r.l = (offT L).lv) := by
  rcases offT_some h with ⟨h0, h2, e⟩ | ⟨h0, x, hx, hs, e⟩
  · refine ⟨fun _ => ?_, fun hn => absurd hn (by omega)⟩
    rw [e]
    refine has_eq ?_
    rw [mem_filF]
    constructor
    · rintro ⟨y, hy, hl, hf⟩
      obtain rfl := okR_uniq hok hy hr hf
      simpa using hl
    · intro hl
      exact ⟨r, hr, by simpa using hl, rfl⟩
  · refine ⟨fun hn => absurd hn (by omega), fun _ hh => ?_⟩
    rw [e] at hh ⊢
    have := has_iff.1 hh
    simp at this
    obtain rfl := okR_uniq hok hx hr this.symm
    exact ⟨hs, rfl⟩
theorem off_end {L : List Rn} (h : (offT L).s = true) : (0 ≤ lowG L 4 → (offT L).lv = lowG L 4 + 1) ∧ (lowG L 4 < 0 → (offT L).fs.length = 1) := by
  rcases offT_some h with ⟨h0, h2, e⟩ | ⟨h0, x, hx, hs, e⟩
  · exact ⟨fun _ => by rw [e], fun hn => absurd hn (by omega)⟩
  · exact ⟨fun hn => absurd hn (by omega), fun _ => by rw [e]; rfl⟩
end Go.Proofs.Yteagbcijpfpjhaa
