/- The contract of isRow. -/
import Derived.Test.YtdamlnpfpfpeeaaMG7
import Derived.BigQuiet
import Derived.Deep.QuietTactic
namespace Go.Proofs.Ytdamlnpfpfpeeaa
open Go.RowKit

theorem keys_take (L : List En) (k : Nat) : keysE (L.take k) = (keysE L).take k := by unfold keysE; rw [List.map_take]
theorem pw_snoc {N : List Ks} {k : Nat} (hk : k < N.length) (h : (N.take k).Pairwise ltK) (hl : 0 < k → ltK (N[k - 1]'(by omega)) N[k]) : (N.take (k + 1)).Pairwise ltK := by
  rw [List.take_add_one, List.getElem?_eq_getElem hk]
  show (N.take k ++ [N[k]]).Pairwise ltK
  rw [List.pairwise_append]
  refine ⟨h, List.pairwise_singleton _ _, fun x hx y hy => ?_⟩
  obtain rfl : y = N[k] := by simpa using hy
  obtain ⟨i, hi, rfl⟩ := List.getElem_of_mem hx
  simp at hi
  rw [List.getElem_take]
  have h0 := hl (by omega)
  rcases Nat.lt_or_ge i (k - 1) with h1 | h1
  · have := List.pairwise_iff_getElem.1 h i (k - 1) (by simp; omega) (by simp; omega) h1
    rw [List.getElem_take, List.getElem_take] at this
    exact ltK_trans this h0
  · have e : i = k - 1 := by omega
    subst e; exact h0
def eF (L : List En) : Int := if L.all (fun x => rightB x.2) then 0 else 3
theorem rowF_bad {L : List En} {k : Nat} (hk : k < L.length) (h0 : 0 < k) (h : ¬ ltK (L[k - 1]'(by omega)).1 L[k].1) : rowF L = 50 := by
  unfold rowF
  rw [if_pos]
  intro hp
  have := List.pairwise_iff_getElem.1 hp (k - 1) k (by simp [keysE]; omega) (by simpa [keysE] using hk) (by omega)
  simp only [keysE, List.getElem_map] at this
  exact h this
theorem rowF_end {L : List En} (h : (keysE L).Pairwise ltK) : rowF L = eF L := by
  unfold rowF eF
  rw [if_neg (fun hn => hn h)]
theorem eF_snoc (L : List En) (x : En) : eF (L ++ [x]) = if rightB x.2 = true then eF L else 3 := by
  unfold eF
  have e : (L ++ [x]).all (fun x => rightB x.2) = (L.all (fun x => rightB x.2) && rightB x.2) := by simp
  rw [e]
  cases rightB x.2
  · simp
  · rw [Bool.and_true]; rfl
theorem eReads_at {w : World} {v : Value} {L : List En} (h : EReads w v L) {k : Nat} (hk : k < L.length) {b off : Nat} {cap n : Nat} (hv : v = .slice (some ⟨b, off, none⟩) n cap) : ∃ kv, (∀ i (hi : i < 7), w.cell? ⟨b, off + k * 7 + i, none⟩ = some ((c7 ⟨kv, L[k].1, L[k].2⟩)[i]'hi)) ∧ Reads w kv L[k].1 ∧ CnOk L[k].2 := by
  obtain ⟨a, cap', hv', h1, h2, h3⟩ := h
  rw [hv] at hv'
  simp at hv'
  obtain ⟨rfl, rfl, rfl⟩ := hv'
  rcases h3 with rfl | ⟨b', off', h4, h5, h6⟩
  · simp at hk
  · simp at h4
    obtain ⟨rfl, rfl⟩ := h4
    obtain ⟨kv, g1, g2, g3⟩ := h6 k hk
    exact ⟨kv, fun i hi => by rw [show off + k * 7 + i = off + (7 * k + i) by omega]; exact g1 i hi, g2, g3⟩
theorem eReads_some {w : World} {v : Value} {L : List En} (h : EReads w v L) (h0 : 0 < L.length) : ∃ b off cap, v = .slice (some ⟨b, off, none⟩) L.length cap ∧ b < w.heap.size := by
  obtain ⟨a, cap, rfl, h1, h2, h3⟩ := h
  rcases h3 with rfl | ⟨b, off, rfl, h5, h6⟩
  · simp at h0
  · exact ⟨b, off, cap, rfl, h5⟩
theorem eReads_cap {w : World} {a : Option Addr} {n cap : Nat} {L : List En} (h : EReads w (.slice a n cap) L) : n ≤ cap ∧ cap ≤ maxLen := by
  obtain ⟨a', cap', hv, h1, h2, _⟩ := h
  simp at hv
  obtain ⟨_, rfl, rfl⟩ := hv
  exact ⟨h1, h2⟩
set_option maxRecDepth 100000 in
set_option maxHeartbeats 2000000 in
theorem isRow_some (b off cap : Nat) (L : List En) (w : World) (hE : EReads w (.slice (some ⟨b, off, none⟩) L.length cap) L) :
    Calls Try.prog 15 #[.slice (some ⟨b, off, none⟩) L.length cap] w fun e w' => e = .returned (.int .i64 (rowF L)) ∧ Below w.heap.size w w' := by
  have HE : Hid (EReads w (.slice (some ⟨b, off, none⟩) L.length cap) L) := hE
  obtain ⟨hm1, hm2⟩ := eReads_cap hE
  unfold maxLen at hm2
  clear hE
  go_enter Try.func15, Try.ntmps15
  go_wp2_with fail
  go_loopw [3, 8] (fun ev i wr => ∃ k : Nat, k ≤ L.length ∧ i = .int .i64 (k : Int) ∧ ev = .int .i64 (eF (L.take k)) ∧ Hid ((keysE L).take k |>.Pairwise ltK) ∧ Hid (Below w.heap.size w wr)) (fun _ i _ => L.length - (intOf i).toNat)
  case atStart => exact ⟨0, by omega, rfl, rfl, List.Pairwise.nil, Below.refl _ _⟩
  case round =>
    obtain ⟨k, hk, rfl, rfl, HP, HB⟩ := hrel
    by_cases hlt : k < L.length
    · obtain ⟨ee, Hee⟩ := hid_ex (eF (L.take k))
      rw [← Hee.out]
      obtain ⟨kv, hc, hR, hA⟩ := eReads_at (HE.out.below HB.out) hlt rfl
      have HKL : Hid (k < (keysE L).length) := by unfold Hid keysE; simpa using hlt
      have HXE : Hid (eF (L.take (k + 1)) = if rightB L[k].2 = true then ee else 3) := by
        unfold Hid
        rw [List.take_add_one, List.getElem?_eq_getElem hlt, Hee.out]
        exact eF_snoc _ _
      have HPN : Hid ((0 < k → ltK (L[k - 1]'(by omega)).1 L[k].1) → ((keysE L).take (k + 1)).Pairwise ltK) := fun h => pw_snoc HKL.out HP.out (fun h0 => by simpa [keysE] using h h0)
      have HBD : Hid (0 < k → ¬ ltK (L[k - 1]'(by omega)).1 L[k].1 → rowF L = 50) := fun h0 h => rowF_bad hlt h0 h
      have HPV : Hid (0 < k → ∃ kv', wr.cell? ⟨b, off + (k - 1) * 7, none⟩ = some kv' ∧ Reads wr kv' (L[k - 1]'(by omega)).1) := fun h0 => by
        obtain ⟨kv', hc', hR', _⟩ := eReads_at (HE.out.below HB.out) (k := k - 1) (by omega) rfl
        exact ⟨kv', hc' 0 (by decide), hR'⟩
      obtain ⟨X, HX⟩ := hid_ex L[k]
      rw [← HX.out] at hR hA hc HXE HPN HBD
      have c0 := hc 0 (by decide)
      have c1 := hc 1 (by decide)
      have c2 := hc 2 (by decide)
      have c3 := hc 3 (by decide)
      have c4 := hc 4 (by decide)
      have c5 := hc 5 (by decide)
      have c6 := hc 6 (by decide)
      simp only [c7, List.getElem_cons_zero, List.getElem_cons_succ, Nat.add_zero] at c0 c1 c2 c3 c4 c5 c6
      obtain ⟨ak, ck, hkv, _⟩ := hR.form
      subst hkv
      obtain ⟨w2, HW2⟩ := hid_ex (wr.alloc (.cells #[.slice ak X.1.length ck, .int .u64 X.2.c, .bool X.2.o, .int .i64 (hi X.2.s), .int .u64 (lo X.2.s), .int .i64 X.2.mn, .int .i64 X.2.mx] 36))
      have hb2 : Below wr.heap.size wr w2 := by rw [HW2.out]; exact (Below.refl _ _).alloc (Nat.le_refl _) _
      have HB2 : Hid (Below w.heap.size w w2) := HB.out.trans (hb2.mono HB.out.size)
      have HR2 : Hid (Reads w2 (.slice ak X.1.length ck) X.1) := hR.below hb2
      have HBX : Hid (w2.heap[wr.heap.size]? = some (.cells #[.slice ak X.1.length ck, .int .u64 X.2.c, .bool X.2.o, .int .i64 (hi X.2.s), .int .u64 (lo X.2.s), .int .i64 X.2.mn, .int .i64 X.2.mx] 36)) := by rw [HW2.out]; exact heap_alloc_new _ _
      have HPV2 : Hid (0 < k → ∃ kv', w2.cell? ⟨b, off + (k - 1) * 7, none⟩ = some kv' ∧ Reads w2 kv' (L[k - 1]'(by omega)).1) := fun h0 => by
        obtain ⟨kv', q1, q2⟩ := HPV.out h0
        exact ⟨kv', (hb2.cell (cell_block q1).1).trans q1, q2.below hb2⟩
      clear hc hR hb2 HPV HE
      go_wp2_with fail
      rw [← HW2.out]
      clear c0 c1 c2 c3 c4 c5 c6
      have b0 := (cell_row HBX.out 0 (by simp)).1
      simp only [List.getElem_toArray, List.getElem_cons_zero] at b0
      rcases Nat.eq_zero_or_pos k with hk0 | hk0
      · subst hk0
        have HPP : Hid (((keysE L).take (0 + 1)).Pairwise ltK) := HPN.out (fun h => by omega)
        clear HPV2 HBD HPN
        go_quiet (fail)
        have HB3 : Hid (Below w.heap.size w (w2.drewN nq)) := below_drewN HB2.out nq
        have HBX3 : Hid ((w2.drewN nq).heap[wr.heap.size]? = some (.cells #[.slice ak X.1.length ck, .int .u64 X.2.c, .bool X.2.o, .int .i64 (hi X.2.s), .int .u64 (lo X.2.s), .int .i64 X.2.mn, .int .i64 X.2.mx] 36)) := HBX.out
        clear b0
        have d1 := (cell_row HBX3.out 1 (by simp)).1
        have d2 := (cell_row HBX3.out 2 (by simp)).1
        have d3 := (cell_row HBX3.out 3 (by simp)).1
        have d4 := (cell_row HBX3.out 4 (by simp)).1
        have d5 := (cell_row HBX3.out 5 (by simp)).1
        have d6 := (cell_row HBX3.out 6 (by simp)).1
        simp only [List.getElem_toArray, List.getElem_cons_zero, List.getElem_cons_succ] at d1 d2 d3 d4 d5 d6
        go_wp2_with fail
        refine (right_any X.2 _).mono ?_
        rintro e w4 ⟨rfl, hb4⟩
        have HB4 : Hid (Below w.heap.size w w4) := HB3.out.trans (hb4.mono HB3.out.size)
        clear d1 d2 d3 d4 d5 d6 hb4 HBX3 HB3
        cases hrb : rightB X.2 with
        | true =>
          rw [hrb, if_pos rfl] at HXE
          clear hrb
          go_wp2_with fail
          go_roundw
          case rel => exact ⟨0 + 1, by omega, by go_num, by rw [HXE.out], HPP.out, HB4⟩
          case measure => simp [intOf]; omega
        | false =>
          rw [hrb, if_neg (by simp)] at HXE
          clear hrb
          go_wp2_with fail
          go_roundw
          case rel => exact ⟨0 + 1, by omega, by go_num, by rw [HXE.out], HPP.out, HB4⟩
          case measure => simp [intOf]; omega
      · obtain ⟨j, rfl⟩ : ∃ j, k = j + 1 := ⟨k - 1, by omega⟩
        obtain ⟨kv', q0, hR0⟩ := HPV2.out hk0
        simp only [Nat.add_sub_cancel] at q0 hR0 HPN HBD
        obtain ⟨Y, HY⟩ := hid_ex (L[j]'(by omega)).1
        rw [← HY.out] at hR0 HPN HBD
        obtain ⟨ay, cy, hkv, _⟩ := hR0.form
        subst hkv
        have HR0 : Hid (Reads w2 (.slice ay Y.length cy) Y) := hR0
        clear HPV2 hR0
        obtain ⟨cc, HC⟩ := hid_ex (Lib.compareBytes Y X.1)
        by_cases hlk : ltK Y X.1
        · have hcc : cc < 0 := by rw [HC.out]; unfold ltK at hlk; omega
          have HPP : Hid (((keysE L).take (j + 1 + 1)).Pairwise ltK) := HPN.out (fun _ => hlk)
          clear hlk HBD HPN
          go_quiet (exact (cmp_any _ _ Y X.1 _ (HR0.out.below (below_drewN (Below.refl _ _) _)) (HR2.out.below (below_drewN (Below.refl _ _) _))).mono (fun e w h => ⟨by rw [h.1, ← HC.out], _, h.2⟩))
          have HB3 : Hid (Below w.heap.size w (w2.drewN nq)) := below_drewN HB2.out nq
          have HBX3 : Hid ((w2.drewN nq).heap[wr.heap.size]? = some (.cells #[.slice ak X.1.length ck, .int .u64 X.2.c, .bool X.2.o, .int .i64 (hi X.2.s), .int .u64 (lo X.2.s), .int .i64 X.2.mn, .int .i64 X.2.mx] 36)) := HBX.out
          clear b0 q0
          have d1 := (cell_row HBX3.out 1 (by simp)).1
          have d2 := (cell_row HBX3.out 2 (by simp)).1
          have d3 := (cell_row HBX3.out 3 (by simp)).1
          have d4 := (cell_row HBX3.out 4 (by simp)).1
          have d5 := (cell_row HBX3.out 5 (by simp)).1
          have d6 := (cell_row HBX3.out 6 (by simp)).1
          simp only [List.getElem_toArray, List.getElem_cons_zero, List.getElem_cons_succ] at d1 d2 d3 d4 d5 d6
          go_wp2_with fail
          refine (right_any X.2 _).mono ?_
          rintro e w4 ⟨rfl, hb4⟩
          have HB4 : Hid (Below w.heap.size w w4) := HB3.out.trans (hb4.mono HB3.out.size)
          clear d1 d2 d3 d4 d5 d6 hb4 HBX3 HB3
          cases hrb : rightB X.2 with
          | true =>
            rw [hrb, if_pos rfl] at HXE
            clear hrb
            go_wp2_with fail
            go_roundw
            case rel => exact ⟨j + 1 + 1, by omega, by go_num, by rw [HXE.out], HPP.out, HB4⟩
            case measure => simp [intOf]; omega
          | false =>
            rw [hrb, if_neg (by simp)] at HXE
            clear hrb
            go_wp2_with fail
            go_roundw
            case rel => exact ⟨j + 1 + 1, by omega, by go_num, by rw [HXE.out], HPP.out, HB4⟩
            case measure => simp [intOf]; omega
        · have hcc : 0 ≤ cc := by rw [HC.out]; exact cmp_ge.2 hlk
          have HPP : Hid (rowF L = 50) := HBD.out hk0 hlk
          clear hlk HBD HPN
          go_quiet (exact (cmp_any _ _ Y X.1 _ (HR0.out.below (below_drewN (Below.refl _ _) _)) (HR2.out.below (below_drewN (Below.refl _ _) _))).mono (fun e w h => ⟨by rw [h.1, ← HC.out], _, h.2⟩))
          have HB3 : Hid (Below w.heap.size w (w2.drewN nq)) := below_drewN HB2.out nq
          go_wp2_with fail
          go_ret
          exact ⟨by rw [HPP.out]; rfl, HB3.out⟩
    · have hke : k = L.length := by omega
      have HEnd : Hid (rowF L = eF (L.take k)) := by
        unfold Hid
        subst hke
        rw [List.take_length]
        have h1 := HP.out
        rw [List.take_of_length_le (by simp [keysE])] at h1
        exact rowF_end h1
      go_wp2_with fail
      go_ret
      exact ⟨by rw [HEnd.out]; rfl, HB.out⟩
set_option maxRecDepth 100000 in
set_option maxHeartbeats 1000000 in
theorem isRow_none (a : Option Addr) (cap : Nat) (w : World) :
    Calls Try.prog 15 #[.slice a 0 cap] w fun e w' => e = .returned (.int .i64 0) ∧ w' = w := by
  go_enter Try.func15, Try.ntmps15
  go_wp2_with fail
  go_loopw [3, 8] (fun ev i wr => i = .int .i64 0 ∧ ev = .int .i64 0 ∧ Hid (wr = w)) (fun _ _ _ => 0)
  case atStart => exact ⟨rfl, rfl, rfl⟩
  case round =>
    obtain ⟨rfl, rfl, HW⟩ := hrel
    go_wp2_with fail
    go_ret
    exact ⟨rfl, HW.out⟩
theorem isRow_any (v : Value) (L : List En) (w : World) (hE : EReads w v L) :
    Calls Try.prog 15 #[v] w fun e w' => e = .returned (.int .i64 (rowF L)) ∧ Below w.heap.size w w' := by
  rcases Nat.eq_zero_or_pos L.length with h0 | h0
  · obtain ⟨a, cap, rfl, _⟩ := hE.form
    have hL : L = [] := List.length_eq_zero_iff.1 h0
    subst hL
    refine (isRow_none a cap w).mono ?_
    rintro e w' ⟨rfl, hw'⟩
    subst w'
    exact ⟨by unfold rowF; simp [keysE], Below.refl _ _⟩
  · obtain ⟨b, off, cap, rfl, _⟩ := eReads_some hE h0
    exact isRow_some b off cap L w hE
end Go.Proofs.Ytdamlnpfpfpeeaa
