/- What putting an entry makes of the towers. -/
import Derived.Test.YtbeemkcdpmbhmaaS6
namespace Go.Proofs.Ytbeemkcdpmbhmaa
open Go.RowKit

def insN (N : List Nd) (i : Nat) (x : Nd) : List Nd := N.take i ++ x :: N.drop i
theorem insN_len (N : List Nd) (i : Nat) (x : Nd) (hi : i ≤ N.length) : (insN N i x).length = N.length + 1 := by unfold insN; simp; omega
theorem insN_lt {N : List Nd} {i : Nat} {x : Nd} {j : Nat} (hj : j < i) (hi : i ≤ N.length) : (insN N i x)[j]'(by rw [insN_len _ _ _ hi]; omega) = N[j] := by
  unfold insN; rw [List.getElem_append_left (by simp; omega)]; simp
theorem insN_eq {N : List Nd} {i : Nat} {x : Nd} (hi : i ≤ N.length) : (insN N i x)[i]'(by rw [insN_len _ _ _ hi]; omega) = x := by
  unfold insN; rw [List.getElem_append_right (by simp; omega)]; simp [Nat.min_eq_left hi]
theorem insN_gt {N : List Nd} {i : Nat} {x : Nd} {j : Nat} (hj : i ≤ j) (hjn : j < N.length) : (insN N i x)[j + 1]'(by rw [insN_len _ _ _ (by omega)]; omega) = N[j] := by
  unfold insN
  rw [List.getElem_append_right (by simp; omega)]
  have e : j + 1 - (N.take i).length = (j - i) + 1 := by simp; omega
  simp only [e, List.getElem_cons_succ, List.getElem_drop]
  congr 1; omega
theorem insN_drop {N : List Nd} {i : Nat} {x : Nd} {p : Nat} (hp : p ≤ i) (hi : i ≤ N.length) : (insN N i x).drop p = (N.drop p).take (i - p) ++ x :: N.drop i := by
  unfold insN
  rw [List.drop_append_of_le_length (by simp; omega), List.drop_take]
theorem drop_split {N : List Nd} {i p : Nat} (hp : p ≤ i) : N.drop p = (N.drop p).take (i - p) ++ N.drop i := by
  have := (List.take_append_drop (i - p) (N.drop p)).symm
  rw [List.drop_drop, show p + (i - p) = i by omega] at this
  exact this
theorem insN_drop_gt {N : List Nd} {i : Nat} {x : Nd} {p : Nat} (hp : i ≤ p) (hi : i ≤ N.length) : (insN N i x).drop (p + 1) = N.drop p := by
  unfold insN
  rw [List.drop_append, List.drop_of_length_le (by simp; omega), List.nil_append]
  have e : p + 1 - (N.take i).length = (p - i) + 1 := by simp; omega
  rw [e, List.drop_succ_cons, List.drop_drop]; congr 1; omega
theorem hgt_ins_le {N : List Nd} {i : Nat} {x : Nd} {p : Nat} (hp : p ≤ i) (hi : i ≤ N.length) : hgt (insN N i x) p = hgt N p := by
  cases p with
  | zero => rfl
  | succ p => rw [hgt_at (by rw [insN_len _ _ _ hi]; omega), hgt_at (by omega), insN_lt (by omega) hi]
theorem nxt_append (A B : List Nd) (k : Nat) : nxt (A ++ B) k = if (A.find? fun x => decide (k < x.h)).isSome then nxt A k else nxt B k := by
  unfold nxt
  rw [List.find?_append]
  cases h : A.find? fun x => decide (k < x.h) <;> simp
theorem mid_none {N : List Nd} {i p k : Nat} (hi : i ≤ N.length) (h : ∀ j, p < j → j ≤ i → ¬ k < hgt N j) : (((N.drop p).take (i - p)).find? fun x => decide (k < x.h)).isSome = false := by
  rw [Option.isSome_eq_false_iff, Option.isNone_iff_eq_none, List.find?_eq_none]
  intro x hx
  obtain ⟨j, hj, rfl⟩ := List.mem_iff_getElem.1 hx
  simp at hj
  have := h (p + j + 1) (by omega) (by omega)
  rw [hgt_at (by omega)] at this
  simpa using this
theorem mid_some {N : List Nd} {i p k j : Nat} (hi : i ≤ N.length) (h1 : p < j) (h2 : j ≤ i) (h : k < hgt N j) : (((N.drop p).take (i - p)).find? fun x => decide (k < x.h)).isSome = true := by
  obtain ⟨j, rfl⟩ : ∃ j', j = j' + 1 := ⟨j - 1, by omega⟩
  rw [hgt_at (by omega)] at h
  rw [List.find?_isSome]
  refine ⟨N[j], ?_, by simpa using h⟩
  rw [List.mem_iff_getElem]
  exact ⟨j - p, by simp; omega, by simp [show p + (j - p) = j by omega]⟩
theorem nxF_bp {N : List Nd} {i k : Nat} (hi : i ≤ N.length) (hk : k < 8) : nxF N (bp N k i) k = nxt (N.drop i) k := by
  unfold nxF
  rw [if_pos (bp_hgt N k hk i), drop_split (bp_le N k i), nxt_append, mid_none hi (fun j h1 h2 => bp_none i j h1 h2)]
  simp
theorem nxF_ins_le {N : List Nd} {i k p : Nat} {x : Nd} (hi : i ≤ N.length) (hk : k < 8) (hp : p ≤ i) : nxF (insN N i x) p k = if k < x.h ∧ p = bp N k i then .pointer (some ⟨x.b, 0, none⟩) else nxF N p k := by
  by_cases hh : k < hgt N p
  · have e0 : nxF (insN N i x) p k = nxt ((N.drop p).take (i - p) ++ x :: N.drop i) k := by unfold nxF; rw [hgt_ins_le hp hi, if_pos hh, insN_drop hp hi]
    have e1 : nxF N p k = nxt ((N.drop p).take (i - p) ++ N.drop i) k := by unfold nxF; rw [if_pos hh, ← drop_split hp]
    rw [e0, e1, nxt_append, nxt_append]
    by_cases hb : p = bp N k i
    · have hm := mid_none (p := p) hi (fun j h1 h2 => bp_none (N := N) (k := k) i j (by omega) h2)
      rw [hm]
      simp only [Bool.false_eq_true, if_false]
      by_cases hx : k < x.h
      · rw [if_pos ⟨hx, hb⟩]; unfold nxt; rw [List.find?_cons_of_pos (by simpa using hx)]; rfl
      · rw [if_neg (fun h => hx h.1)]; unfold nxt; rw [List.find?_cons_of_neg (by simpa using hx)]
    · have hlt : p < bp N k i := by
        rcases Nat.lt_or_ge p (bp N k i) with h | h
        · exact h
        · exact absurd hh (bp_none i p (by omega) hp)
      rw [mid_some hi hlt (bp_le N k i) (bp_hgt N k hk i)]
      simp only [if_true]
      rw [if_neg (fun h => hb h.2)]
  · have hb : p ≠ bp N k i := fun e => hh (e ▸ bp_hgt N k hk i)
    rw [if_neg (fun h => hb h.2)]
    unfold nxF
    rw [hgt_ins_le hp hi, if_neg hh, if_neg hh]
theorem nxF_ins_new {N : List Nd} {i k : Nat} {x : Nd} (hi : i ≤ N.length) : nxF (insN N i x) (i + 1) k = if k < x.h then nxt (N.drop i) k else .pointer none := by
  unfold nxF
  rw [hgt_at (by rw [insN_len _ _ _ hi]; omega), insN_eq hi, insN_drop_gt (Nat.le_refl _) hi]
theorem nxF_ins_gt {N : List Nd} {i k p : Nat} {x : Nd} (hi : i ≤ N.length) (hp : i < p) (hpn : p ≤ N.length) : nxF (insN N i x) (p + 1) k = nxF N p k := by
  obtain ⟨p, rfl⟩ : ∃ q, p = q + 1 := ⟨p - 1, by omega⟩
  unfold nxF
  rw [hgt_at (by rw [insN_len _ _ _ hi]; omega), hgt_at (by omega), insN_gt (by omega) (by omega), insN_drop_gt (by omega) hi]
theorem hdc_set (f : Nat → Value) (n sz : Int) (fr : Bool) (k : Nat) (hk : k < 8) (v : Value) : (hdc f n sz fr).setIfInBounds (7 + k) v = hdc (fun j => if j = k then v else f j) n sz fr := by
  match k, hk with
  | 0, _ | 1, _ | 2, _ | 3, _ | 4, _ | 5, _ | 6, _ | 7, _ => simp [hdc]
theorem ndc_set (kv : Value) (a : Ag) (f : Nat → Value) (k : Nat) (hk : k < 8) (v : Value) : (ndc kv a f).setIfInBounds (7 + k) v = ndc kv a (fun j => if j = k then v else f j) := by
  match k, hk with
  | 0, _ | 1, _ | 2, _ | 3, _ | 4, _ | 5, _ | 6, _ | 7, _ => simp [ndc]
theorem hdc_congr {f g : Nat → Value} {n sz : Int} {fr : Bool} (h : ∀ k, k < 8 → f k = g k) : hdc f n sz fr = hdc g n sz fr := by
  unfold hdc; rw [h 0 (by decide), h 1 (by decide), h 2 (by decide), h 3 (by decide), h 4 (by decide), h 5 (by decide), h 6 (by decide), h 7 (by decide)]
theorem ndc_congr {f g : Nat → Value} {kv : Value} {a : Ag} (h : ∀ k, k < 8 → f k = g k) : ndc kv a f = ndc kv a g := by
  unfold ndc; rw [h 0 (by decide), h 1 (by decide), h 2 (by decide), h 3 (by decide), h 4 (by decide), h 5 (by decide), h 6 (by decide), h 7 (by decide)]
/-- A next place is set. -/
theorem SLm.setNext {w : World} {base L0 : Nat} {N : List Nd} {F : Nat → Nat → Value} {n sz : Int} {fr : Bool} (h : SLm w base L0 N F n sz fr) {p k : Nat} (hp : p ≤ N.length) (hk : k < 8) (v : Value) :
    SLm (w.setCell ⟨blk L0 N p, 7 + k, none⟩ v) base L0 N (fun q j => if q = p ∧ j = k then v else F q j) n sz fr := by
  have hT : ∀ q, q ≤ N.length → q ≠ p → blk L0 N q ≠ blk L0 N p := fun q hq hne e => hne (blk_inj h hq hp e)
  refine ⟨?_, fun i hi => ?_, fun i hi => ?_, h.b0, h.bs, h.ne⟩
  · by_cases e : p = 0
    · subst e
      have := Go.heap_setCell_same w L0 (7 + k) _ _ v h.hd
      rw [hdc_set _ _ _ _ k hk] at this
      refine this.trans ?_
      congr 2
      exact hdc_congr (fun j _ => by simp)
    · rw [Below.heap_setCell _ _ _ _ (show L0 ≠ blk L0 N p from hT 0 (by omega) (fun h => e h.symm))]
      rw [h.hd]; congr 2
      exact hdc_congr (fun j _ => by rw [if_neg (fun h => e h.1.symm)])
  · by_cases e : p = i + 1
    · subst e
      rw [blk_at hi]
      have := Go.heap_setCell_same w N[i].b (7 + k) _ _ v (h.nd i hi)
      rw [ndc_set _ _ _ k hk] at this
      refine this.trans ?_
      congr 2
      exact ndc_congr (fun j _ => by simp)
    · rw [Below.heap_setCell _ _ _ _ (show N[i].b ≠ blk L0 N p from by rw [← blk_at (L0 := L0) hi]; exact hT (i + 1) (by omega) (fun h => e h.symm))]
      rw [h.nd i hi]; congr 2
      exact ndc_congr (fun j _ => by rw [if_neg (fun h => e h.1.symm)])
  · cases p with
    | zero => exact own7 L0 (h.ky i hi) h.hd (by decide) _ _
    | succ p => rw [blk_at (by omega)]; exact own7 _ (h.ky i hi) (h.nd p (by omega)) (by decide) _ _
end Go.Proofs.Ytbeemkcdpmbhmaa
