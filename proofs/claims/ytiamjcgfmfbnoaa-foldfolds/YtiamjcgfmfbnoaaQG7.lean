/- MG7 MG8 CP1 MG9, joined. -/
import Derived.Test.YtiamjcgfmfbnoaaQG4
import Derived.Test.YtiamjcgfmfbnoaaQG6
import Derived.BigQuiet
import Derived.Deep.QuietTactic
import Derived.Laws.IdiomCopy
/- The contract of Next: the entries of the rows, one behind the other. -/
namespace Go.Proofs.Ytiamjcgfmfbnoaa
open Go.RowKit

theorem rest_perm (p : Pt) (P : List Pt) : (tags ((restP p P).map paP)).Perm (tags ((p.xs.tail.map evE, p.r) :: P.map paP)) := by
  unfold restP
  by_cases h : p.xs.length ≤ 1
  · rw [if_pos h]
    have e : p.xs.tail = [] := by
      cases hx : p.xs with
      | nil => rfl
      | cons x xs => rw [hx] at h; simp at h; simpa using h
    rw [e]
    have h1 : (tags ((lastF P).map paP)).Perm (tags (P.map paP)) := tags_perm ((lastF_perm P).map paP)
    exact h1
  · rw [if_neg h]
    exact List.Perm.refl _
theorem rest_good (p : Pt) (P : List Pt) (hg : GoodP ((p :: P).map paP)) : GoodP ((restP p P).map paP) := by
  unfold restP
  by_cases h : p.xs.length ≤ 1
  · rw [if_pos h]
    have : GoodP (P.map paP) := ⟨fun q hq => hg.ne q (List.mem_cons_of_mem _ hq), fun q hq => hg.so q (List.mem_cons_of_mem _ hq), by
      have := hg.nd
      rw [List.map_cons, List.map_cons, List.nodup_cons] at this
      exact this.2⟩
    exact this.perm ((lastF_perm P).map paP)
  · rw [if_neg h]
    refine ⟨fun q hq => ?_, fun q hq => ?_, ?_⟩
    · rcases List.mem_cons.1 hq with rfl | hq
      · show p.xs.tail.map evE ≠ []
        intro e
        have := congrArg List.length e
        simp at this
        omega
      · exact hg.ne q (List.mem_cons_of_mem _ hq)
    · rcases List.mem_cons.1 hq with rfl | hq
      · have h1 := hg.so (paP p) (List.mem_cons_self ..)
        show (keysE (p.xs.tail.map evE)).Pairwise ltK
        cases hx : p.xs with
        | nil => exact List.Pairwise.nil
        | cons x xs =>
          have h2 : (keysE ((x :: xs).map evE)).Pairwise ltK := by rw [← hx]; exact h1
          unfold keysE at h2 ⊢
          rw [List.map_cons, List.map_cons, List.pairwise_cons] at h2
          exact h2.2
      · exact hg.so q (List.mem_cons_of_mem _ hq)
    · exact hg.nd
theorem getD_lastF (P : List Pt) (i : Nat) (h0 : 0 < i) (hi : i < P.length) : (lastF P).getD i ptZ = P.getD (i - 1) ptZ := by
  rcases List.eq_nil_or_concat P with rfl | ⟨L, b, rfl⟩
  · simp at hi
  · simp only [List.concat_eq_append] at hi ⊢
    have e : lastF (L ++ [b]) = b :: L := by simp [lastF]
    rw [e]
    obtain ⟨j, rfl⟩ : ∃ j, i = j + 1 := ⟨i - 1, by omega⟩
    simp at hi
    simp [List.getD, hi, List.getElem?_append_left hi]
theorem rest_heap (p : Pt) (P : List Pt) (h : HQ lePt ptZ (p :: P) 0) : HQ lePt ptZ (restP p P) 1 := by
  unfold restP
  by_cases hc : p.xs.length ≤ 1
  · rw [if_pos hc]
    intro i h1 h2 h3
    have hl : (lastF P).length = P.length := (lastF_perm P).length_eq
    rw [hl] at h1
    rw [getD_lastF P i h2 h1, getD_lastF P ((i - 1) / 2) (by omega) (by omega)]
    have := h i (by simp; omega) h2 (Nat.zero_le _)
    obtain ⟨j, rfl⟩ : ∃ j, i = j + 1 := ⟨i - 1, by omega⟩
    obtain ⟨k, hk⟩ : ∃ k, (j + 1 - 1) / 2 = k + 1 := ⟨(j + 1 - 1) / 2 - 1, by omega⟩
    rw [hk] at this ⊢
    simpa [List.getD] using this
  · rw [if_neg hc]
    intro i h1 h2 h3
    have := h i (by simpa using h1) h2 (Nat.zero_le _)
    obtain ⟨j, rfl⟩ : ∃ j, i = j + 1 := ⟨i - 1, by omega⟩
    obtain ⟨k, hk⟩ : ∃ k, (j + 1 - 1) / 2 = k + 1 := ⟨(j + 1 - 1) / 2 - 1, by omega⟩
    rw [hk] at this ⊢
    simpa [List.getD] using this
theorem lePt_irrefl (x : Pt) : ¬ lePt x x := ltT_irrefl _
theorem nlePt_trans (x y c : Pt) (h1 : ¬ lePt y x) (h2 : ¬ lePt c y) : ¬ lePt c x := nltT_trans h1 h2
/-- The first part is the least one. -/
theorem HQ.first {p : Pt} {P : List Pt} (h : HQ lePt ptZ (p :: P) 0) : ∀ q ∈ P.map paP, ¬ ltP q (paP p) := by
  intro q hq
  obtain ⟨r, hr, rfl⟩ := List.mem_map.1 hq
  obtain ⟨i, hi, rfl⟩ := List.getElem_of_mem hr
  have := HQ.least h lePt_irrefl nlePt_trans (i + 1) (by simpa using hi)
  have h2 : ¬ lePt P[i] p := by simpa [List.getD, hi] using this
  exact h2
end Go.Proofs.Ytiamjcgfmfbnoaa

/- The contract of isRow. -/
namespace Go.Proofs.Ytiamjcgfmfbnoaa
open Go.RowKit

theorem keys_take (L : List En) (k : Nat) : keysE (L.take k) = (keysE L).take k := by unfold keysE; rw [List.map_take]
theorem pw_snoc {N : List Ks} {k : Nat} (hk : k < N.length) (h : (N.take k).Pairwise ltK) (hl : 0 < k → ltK (N[k - 1]'(by omega)) N[k]) : (N.take (k + 1)).Pairwise ltK := by
  rw [List.take_add_one, List.getElem?_eq_getElem hk]
  show (N.take k ++ [N[k]]).Pairwise ltK
  rw [List.pairwise_append]
  refine ⟨h, List.pairwise_singleton _ _, fun x hx y hy => ?_⟩
  obtain rfl : y = N[k] := by simpa using hy
  obtain ⟨i, hi, rfl⟩ := List.getElem_of_mem hx
  simp at hi
  rw [List.getElem_take]
  have h0 := hl (by omega)
  rcases Nat.lt_or_ge i (k - 1) with h1 | h1
  · have := List.pairwise_iff_getElem.1 h i (k - 1) (by simp; omega) (by simp; omega) h1
    rw [List.getElem_take, List.getElem_take] at this
    exact ltK_trans this h0
  · have e : i = k - 1 := by omega
    subst e; exact h0
def eF (L : List En) : Int := if L.all (fun x => rightB x.2) then 0 else 3
theorem rowF_bad {L : List En} {k : Nat} (hk : k < L.length) (h0 : 0 < k) (h : ¬ ltK (L[k - 1]'(by omega)).1 L[k].1) : rowF L = 50 := by
  unfold rowF
  rw [if_pos]
  intro hp
  have := List.pairwise_iff_getElem.1 hp (k - 1) k (by simp [keysE]; omega) (by simpa [keysE] using hk) (by omega)
  simp only [keysE, List.getElem_map] at this
  exact h this
theorem rowF_end {L : List En} (h : (keysE L).Pairwise ltK) : rowF L = eF L := by
  unfold rowF eF
  rw [if_neg (fun hn => hn h)]
theorem eF_snoc (L : List En) (x : En) : eF (L ++ [x]) = if rightB x.2 = true then eF L else 3 := by
  unfold eF
  have e : (L ++ [x]).all (fun x => rightB x.2) = (L.all (fun x => rightB x.2) && rightB x.2) := by simp
  rw [e]
  cases rightB x.2
  · simp
  · rw [Bool.and_true]; rfl
theorem eReads_at {w : World} {v : Value} {L : List En} (h : EReads w v L) {k : Nat} (hk : k < L.length) {b off : Nat} {cap n : Nat} (hv : v = .slice (some ⟨b, off, none⟩) n cap) : ∃ kv, (∀ i (hi : i < 7), w.cell? ⟨b, off + k * 7 + i, none⟩ = some ((c7 ⟨kv, L[k].1, L[k].2⟩)[i]'hi)) ∧ Reads w kv L[k].1 ∧ CnOk L[k].2 := by
  obtain ⟨a, cap', hv', h1, h2, h3⟩ := h
  rw [hv] at hv'
  simp at hv'
  obtain ⟨rfl, rfl, rfl⟩ := hv'
  rcases h3 with rfl | ⟨b', off', h4, h5, h6⟩
  · simp at hk
  · simp at h4
    obtain ⟨rfl, rfl⟩ := h4
    obtain ⟨kv, g1, g2, g3⟩ := h6 k hk
    exact ⟨kv, fun i hi => by rw [show off + k * 7 + i = off + (7 * k + i) by omega]; exact g1 i hi, g2, g3⟩
theorem eReads_some {w : World} {v : Value} {L : List En} (h : EReads w v L) (h0 : 0 < L.length) : ∃ b off cap, v = .slice (some ⟨b, off, none⟩) L.length cap ∧ b < w.heap.size := by
  obtain ⟨a, cap, rfl, h1, h2, h3⟩ := h
  rcases h3 with rfl | ⟨b, off, rfl, h5, h6⟩
  · simp at h0
  · exact ⟨b, off, cap, rfl, h5⟩
theorem eReads_cap {w : World} {a : Option Addr} {n cap : Nat} {L : List En} (h : EReads w (.slice a n cap) L) : n ≤ cap ∧ cap ≤ maxLen := by
  obtain ⟨a', cap', hv, h1, h2, _⟩ := h
  simp at hv
  obtain ⟨_, rfl, rfl⟩ := hv
  exact ⟨h1, h2⟩
end Go.Proofs.Ytiamjcgfmfbnoaa

/- Bytes that are copied into the middle of bytes of one's own. -/
namespace Go.Proofs.Ytiamjcgfmfbnoaa
open Go.RowKit

theorem copy_gen {w : World} {base g n off m : Nat} {L l : List UInt8} {v : Value} (ty : TypeId) (hO : Own w base (.slice (some ⟨g, 0, none⟩) n n) L) (hR : Reads w v l) (hl : off + l.length ≤ n) (hm : m = n - off) :
    ∃ w3, (Builtin.copy_ #[36, 36] ty #[.slice (some ⟨g, off, none⟩) m m, v]).run Try.prog w = .ok (goInt l.length) w3 ∧ Own w3 base (.slice (some ⟨g, 0, none⟩) n n) (L.take off ++ l ++ L.drop (off + l.length)) ∧ Hid (Below base w w3) ∧ Hid (w.grownBy w3 (some g)) := by
  subst hm
  obtain ⟨i0, hi, hz0, hz1, hz2⟩ := info_parts info5
  have hLn : L.length = n := by
    obtain ⟨a, cap, hv, _⟩ := hO.form
    simp at hv; omega
  have hOw := hO
  obtain ⟨h1, h2⟩ := hO
  rcases h2 with ⟨h2, _⟩ | ⟨g', cap, cur, hv, hg, hw, hn, hm, hs, ht⟩
  · simp at h2
  · simp at hv
    obtain ⟨rfl, hv2, rfl⟩ := hv
    rcases hR with ⟨rfl, a, cp, rfl, _⟩ | ⟨b, o, cp, rfl, r2, r3, r4, r5, r6⟩
    · refine ⟨w, ?_, by simpa using hOw, Below.refl _ _, ⟨rfl, rfl, rfl, Nat.le_refl _, fun _ _ _ => rfl⟩⟩
      exact run_copy_none w 36 36 ty 5 _ a (n - off) (n - off) 0 cp Try.underlying36 (by rw [hi]; simp [hz1]) (Nat.zero_min _)
    · have hcl : cur.toList = L.map bc := by
        rw [← ht, List.take_of_length_le (by simp; omega)]
      have hrun := run_copy_row (P := Try.prog) w 36 36 ty 5 g off (n - off) (n - off) ⟨b, o, none⟩ l.length cp cur 5 (l.map bc) Try.underlying36 (by rw [hi]; simp [hz1]) hw (by rw [List.length_map]; exact (Nat.min_eq_left (by omega)).symm) (newsR r6) (by simp; omega) one_bc
      rw [List.length_map] at hrun
      refine ⟨_, hrun, ?_, below_setRow (Below.refl _ _) hg _, ?_⟩
      · have hheap := setRow_heap w g cur (cur.toList.take off ++ l.map bc ++ cur.toList.drop (off + l.length)).toArray 5 (0, 0) hw
        have e1 : cur.toList.take off ++ l.map bc ++ cur.toList.drop (off + l.length) = (L.take off ++ l ++ L.drop (off + l.length)).map bc := by
          rw [hcl]; simp
        rw [e1] at hheap ⊢
        have hlen : (L.take off ++ l ++ L.drop (off + l.length)).length = n := by simp; omega
        refine ⟨by simp, .inr ⟨g, n, _, by rw [hlen], hg, hheap, by omega, hm, by rw [List.size_toArray, List.length_map]; omega, ?_⟩⟩
        rw [hlen, List.toList_toArray, Nat.mul_one]; exact List.take_of_length_le (by rw [List.length_map]; omega)
      · have hb := below_setRow (Below.refl 0 w) (Nat.zero_le g) (cur.toList.take off ++ l.map bc ++ cur.toList.drop (off + l.length)).toArray
        refine ⟨rfl, rfl, rfl, hb.size, fun k hk hne => ?_⟩
        show (w.heap.modify g _)[k]? = _
        rw [Array.getElem?_modify, if_neg (fun e => hne (by rw [e]))]
theorem copy_none {w : World} {d a : Option Addr} {m c c' : Nat} (ty : TypeId) : (Builtin.copy_ #[36, 36] ty #[.slice d m c, .slice a 0 c']).run Try.prog w = .ok (goInt 0) w := by
  obtain ⟨i0, hi, hz0, hz1, hz2⟩ := info_parts info5
  exact run_copy_none w 36 36 ty 5 d a m c 0 c' Try.underlying36 (by rw [hi]; simp [hz1]) (Nat.zero_min _)
end Go.Proofs.Ytiamjcgfmfbnoaa

/- The contract of copied. -/
namespace Go.Proofs.Ytiamjcgfmfbnoaa
open Go.RowKit

theorem infoEn : (Try.prog.info? 43).map (fun i => (i.zero, i.size, i.bytes)) = some (some (.agg #[.slice none 0 0, .int .u64 0, .bool false, .int .i64 0, .int .u64 0, .int .i64 0, .int .i64 0]), 7, 72) := by kernel_rfl
def evZ : Ev := ⟨.slice none 0 0, [], agZ⟩
theorem made7 : ∀ n : Nat, (madeCells (Value.agg #[.slice none 0 0, .int .u64 0, .bool false, .int .i64 0, .int .u64 0, .int .i64 0, .int .i64 0]).cells (n * 7)).toList = (List.replicate n evZ).flatMap c7 := by
  intro n
  apply List.ext_getElem?
  intro j
  by_cases hj : j < n * 7
  · have h1 : j / 7 < (List.replicate n evZ).length := by simp; omega
    have h2 := flat7 (List.replicate n evZ) (j / 7) (j % 7) h1 (by omega)
    rw [show 7 * (j / 7) + j % 7 = j by omega] at h2
    rw [h2]
    have h3 : (List.replicate n evZ)[j / 7]'h1 = evZ := by simp
    rw [h3]
    have h4 : j % 7 < 7 := by omega
    simp only [madeCells, Value.cells]
    rw [Array.getElem?_toList]
    simp [hj]
    have : ∀ r : Fin 7, (#[Value.slice none 0 0, .int .u64 0, .bool false, .int .i64 0, .int .u64 0, .int .i64 0, .int .i64 0] : Array Value)[r.val]? = (c7 evZ)[r.val]? := by
      intro r
      match r with
      | 0 | 1 | 2 | 3 | 4 | 5 | 6 => rfl
    have h5 := this ⟨j % 7, h4⟩
    simp only [] at h5
    rw [← h5]
    simp [h4]
  · rw [List.getElem?_eq_none (by simp [madeCells]; omega), List.getElem?_eq_none]
    have : ∀ xs : List Ev, (xs.flatMap c7).length = xs.length * 7 := by
      intro xs
      induction xs with
      | nil => rfl
      | cons x xs ih => rw [List.flatMap_cons, List.length_append, ih, c7_len]; simp; omega
    rw [this]; simp; omega
theorem flat7_len : ∀ xs : List Ev, (xs.flatMap c7).length = xs.length * 7
  | [] => rfl
  | x :: xs => by rw [List.flatMap_cons, List.length_append, flat7_len xs, c7_len]; simp; omega
theorem row_set7 {w W : World} {base g n cap k : Nat} {cur : Array Value} {ys : List Ev} {y : Ev} (h : w.ownsRow base 43 7 (.slice (some ⟨g, 0, none⟩) n cap) n (ys.flatMap c7)) (hcur : w.heap[g]? = some (.cells cur 43))
    (hW : StW w W g (k * 7) cur 43 (c7 y)) (hn : ys.length = n) : W.ownsRow base 43 7 (.slice (some ⟨g, 0, none⟩) n cap) n ((ys.set k y).flatMap c7) := by
  obtain ⟨h1, h2⟩ := h
  refine ⟨by rw [flat7_len, List.length_set, hn], ?_⟩
  rcases h2 with ⟨h2, _⟩ | ⟨g', cap', cur0, hv, hg, hw, hc, hx, hs, ht⟩
  · simp at h2
  · have hv' := hv
    simp at hv'
    obtain ⟨rfl, rfl⟩ := hv'
    obtain rfl : cur0 = cur := by rw [hw] at hcur; simpa using hcur
    obtain ⟨cur', k1, k2, k3, k4⟩ := hW.c
    refine .inr ⟨g, cap, cur', rfl, hg, k1, hc, hx, by omega, ?_⟩
    apply List.ext_getElem?
    intro j
    rw [List.getElem?_take]
    by_cases hj : j < n * 7
    · rw [if_pos hj, Array.getElem?_toList]
      have hj7 : j / 7 < (ys.set k y).length := by simp; omega
      have e1 := flat7 (ys.set k y) (j / 7) (j % 7) hj7 (by omega)
      rw [show 7 * (j / 7) + j % 7 = j by omega] at e1
      rw [e1]
      by_cases hjk : j / 7 = k
      · have e2 : (ys.set k y)[j / 7]'hj7 = y := by simp [hjk]
        rw [e2]
        have := k4 (j % 7) (by rw [c7_len]; omega)
        rw [show k * 7 + j % 7 = j by omega] at this
        rw [this, List.getElem?_eq_getElem]
      · rw [k3 j (by rw [c7_len]; omega)]
        have e2 : (ys.set k y)[j / 7]'hj7 = ys[j / 7]'(by simpa using hj7) := by
          rw [List.getElem_set]; rw [if_neg (fun e => hjk e.symm)]
        rw [e2]
        have e3 := flat7 ys (j / 7) (j % 7) (by simpa using hj7) (by omega)
        rw [show 7 * (j / 7) + j % 7 = j by omega] at e3
        rw [← e3, ← ht, List.getElem?_take, if_pos hj, Array.getElem?_toList]
    · rw [if_neg hj, List.getElem?_eq_none (by rw [flat7_len, List.length_set]; omega)]
def CpPost (L : List En) (w : World) (e : Ending) (w' : World) : Prop := ∃ g xs, e = .returned (.slice (some ⟨g, 0, none⟩) L.length L.length) ∧ EOwn w' w.heap.size (.slice (some ⟨g, 0, none⟩) L.length L.length) xs ∧ xs.map evE = L ∧ Below w.heap.size w w'
/-- What the loop of copied keeps. -/
structure CpI (L : List En) (w : World) (g k : Nat) (xs : List Ev) (wr : World) : Prop where
  l : xs.length = k
  m : xs.map evE = L.take k
  r : wr.ownsRow w.heap.size 43 7 (.slice (some ⟨g, 0, none⟩) L.length L.length) L.length ((xs ++ List.replicate (L.length - k) evZ).flatMap c7)
  o : ∀ x ∈ xs, Own wr w.heap.size x.kv x.k
  b : Below w.heap.size w wr
end Go.Proofs.Ytiamjcgfmfbnoaa
