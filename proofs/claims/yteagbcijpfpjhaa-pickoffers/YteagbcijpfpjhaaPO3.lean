/- The reference's sorted. -/
import Derived.Test.YteagbcijpfpjhaaPO1
import Derived.BigRegion
namespace Go.Proofs.Yteagbcijpfpjhaa
open Go.RowKit Go.Shelf

theorem get_mid (P Q : List Int) (x : Int) (h : P.length < (P ++ x :: Q).length) : (P ++ x :: Q)[P.length] = x := by simp
theorem get_pre (P Q : List Int) (p x : Int) (h : P.length < (P ++ [p] ++ x :: Q).length) : (P ++ [p] ++ x :: Q)[P.length] = p := by simp
theorem set_swap (P Q : List Int) (p x : Int) : ((P ++ [p] ++ x :: Q).set P.length x).set (P.length + 1) p = P ++ x :: p :: Q := by
  rw [List.append_assoc, List.set_append_right _ _ (Nat.le_refl _), Nat.sub_self, List.set_append_right _ _ (by omega)]
  simp
theorem ins_sorted {P Q : List Int} {x : Int} (hs : (P ++ Q).Pairwise (fun a b => a ≤ b)) (hP : ∀ p ∈ P, p ≤ x) (hQ : ∀ q ∈ Q, x < q) : (P ++ x :: Q).Pairwise (fun a b => a ≤ b) := by
  rw [List.pairwise_append] at hs ⊢
  refine ⟨hs.1, List.pairwise_cons.2 ⟨fun q hq => by have := hQ q hq; omega, hs.2.1⟩, fun a ha b hb => ?_⟩
  rcases List.mem_cons.1 hb with rfl | hb
  · exact hP a ha
  · exact hs.2.2 a ha b hb
set_option maxRecDepth 100000 in
set_option maxHeartbeats 4000000 in
theorem sorted_any (v : Value) (l : List Int) (w : World) (hR : Reads w v l) (h64 : l.length ≤ 1000) : Calls Try.prog 27 #[v] w fun e w' => ∃ v', e = .returned v' ∧ Own w' w.heap.size v' (srt l) ∧ Below w.heap.size w w' := by
  have HR : Hid (Reads w v l) := hR
  obtain ⟨a, cap, rfl, hl2⟩ := hR.form
  clear hR
  unfold maxLen at hl2
  go_enter Try.func27, Try.ntmps27
  go_wp2_with fail
  go_loopw [3, 4] (fun mv i wr => ∃ (k : Nat) (M : List Int), k ≤ l.length ∧ i = .int .i64 (k : Int) ∧ M.length = k ∧ Hid (M = srt (l.take k)) ∧ Hid (Own wr w.heap.size mv M) ∧ Hid (Below w.heap.size w wr)) (fun _ i _ => l.length - (intOf i).toNat)
  case atStart => exact ⟨0, [], by omega, rfl, rfl, by simp [srt, Hid], Own.nil _ _, Below.refl _ _⟩
  case round =>
    obtain ⟨k, M, hk, rfl, hM, HM, HO, HB⟩ := hrel
    obtain ⟨ma, mc, rfl, _⟩ := HO.out.form
    by_cases hlt : k < l.length
    · obtain ⟨b, off, rfl, hb, hc⟩ := (HR.out.below HB.out).at k hlt
      obtain ⟨x, Hx⟩ := hid_ex l[k]
      rw [← Hx.out] at hc
      unfold ic at hc
      obtain ⟨M1, HM1⟩ := hid_ex (M ++ [x])
      have hsz : w.heap.size ≤ wr.heap.size := HB.out.size
      have hOW : Own wr w.heap.size (.slice ma M.length mc) M := HO.out
      have HML : Hid (M.length = k) := hM
      clear hM
      go_wp2_with (at_builtin; refine wpList_app1 rfl _ _ rfl w.heap.size _ M x M1 HM1.out rfl rfl rfl hOW (by have := HML.out; omega) hsz ?_)
      intro v' w' hO' hB'
      have HO' : Hid (Own w' w.heap.size v' M1) := hO'
      have HBn : Hid (Below w.heap.size w w') := HB.out.trans hB'.out
      have hM1l : M1.length = k + 1 := by rw [HM1.out, List.length_append, List.length_singleton, HML.out]
      obtain ⟨g, gc, rfl, hg, hgl, hgc1, hgc2⟩ := hO'.some (by omega)
      clear hO' hB' hOW hc
      rw [hM1l]
      have HPM : Hid (M1.Perm (l.take (k + 1))) := by
        unfold Hid
        rw [HM1.out, HM.out, List.take_succ_eq_append_getElem hlt, ← Hx.out]
        exact (srt_perm _).append_right _
      have HSO : Hid (M.Pairwise (fun a b => a ≤ b)) := by rw [HM.out]; exact srt_sorted _
      rw [HML.out]
      clear hM1l
      go_wp2_with fail
      go_loopw [5] (fun i wr => ∃ (P Q : List Int), i = .int .i64 (P.length : Int) ∧ P.length + Q.length = k ∧ Hid (P ++ Q = M) ∧ Hid (∀ q ∈ Q, x < q) ∧ Hid (Own wr w.heap.size (.slice (some ⟨g, 0, none⟩) (k + 1) gc) (P ++ x :: Q)) ∧ Hid (Below w.heap.size w wr)) (fun i _ => (intOf i).toNat)
      case atStart => exact ⟨M, [], by rw [HML.out], by rw [HML.out]; rfl, List.append_nil _, (fun q hq => by simp at hq), by have := HO'.out; rw [HM1.out] at this; rw [List.length_append, List.length_singleton, HML.out] at this; exact this, HBn.out⟩
      case round =>
        obtain ⟨P, Q, rfl, hPQ, HPQ, HQ, HOQ, HBq⟩ := hrel
        have HEND : Hid ((∀ p ∈ P, p ≤ x) → P ++ x :: Q = srt (l.take (k + 1))) := by
          intro hP
          symm
          refine srt_eq ?_ (ins_sorted (by rw [HPQ.out]; exact HSO.out) hP HQ.out)
          refine List.Perm.trans ?_ HPM.out
          rw [HM1.out, ← HPQ.out]
          exact List.perm_middle.trans (List.perm_append_comm (l₁ := [x]) (l₂ := P ++ Q))
        rcases List.eq_nil_or_concat P with hP | ⟨P', p, hP⟩
        · subst hP
          have e0 : ((([] : List Int).length : Nat) : Int) = 0 := rfl
          rw [e0]
          have HE2 : Hid ([] ++ x :: Q = srt (l.take (k + 1))) := HEND.out (fun p hp => by cases hp)
          have hql : ([] ++ x :: Q : List Int).length = k + 1 := by simp at hPQ ⊢; omega
          have HO9 : Hid (Own wr w.heap.size (.slice (some ⟨g, 0, none⟩) (k + 1) gc) ([] ++ x :: Q)) := HOQ.out
          generalize ([] ++ x :: Q : List Int) = N at *
          clear e0
          have HNL : Hid (N.length = k + 1) := hql
          clear hql
          go_wp2_with fail
          go_quiet (fail)
          have HO10 : Hid (Own (wr.drewN nq) w.heap.size (.slice (some ⟨g, 0, none⟩) (k + 1) gc) N) := HO9.out
          have HBn2 : Hid (Below w.heap.size w (wr.drewN nq)) := below_drewN HBq.out nq
          go_wp2_with fail
          go_roundw
          case rel => exact ⟨k + 1, N, by omega, by go_num, HNL.out, HE2.out, HO10.out, HBn2.out⟩
          case measure => simp [intOf]; omega
        · rw [List.concat_eq_append] at hP
          subst hP
          obtain ⟨n, Hn⟩ := hid_ex P'.length
          have e1 : (((P' ++ [p]).length : Nat) : Int) = (n : Int) + 1 := by rw [List.length_append, List.length_singleton, Hn.out]; rfl
          rw [e1]
          have hnk : n < k := by rw [List.length_append, List.length_singleton, ← Hn.out] at hPQ; omega
          have hlen : (P' ++ [p] ++ x :: Q).length = k + 1 := by
            rw [List.length_append, List.length_cons]
            omega
          have d1 := (HOQ.out.at n (by rw [hlen]; omega))
          have d2 := (HOQ.out.at (n + 1) (by rw [hlen]; omega))
          have v1 : (P' ++ [p] ++ x :: Q)[n]'(by rw [hlen]; omega) = p := by
            have := get_pre P' Q p x (by rw [hlen, ← Hn.out]; omega)
            simp only [← Hn.out] at this
            exact this
          have v2 : (P' ++ [p] ++ x :: Q)[n + 1]'(by rw [hlen]; omega) = x := by
            have := get_mid (P' ++ [p]) Q x (by rw [hlen, List.length_append, List.length_singleton, ← Hn.out]; omega)
            simp only [List.length_append, List.length_singleton, ← Hn.out] at this
            exact this
          rw [v1] at d1
          rw [v2] at d2
          unfold ic at d1 d2
          obtain ⟨d1a, d1b⟩ := d1
          obtain ⟨d2a, d2b⟩ := d2
          have hdn : decide (0 < (n : Int) + 1) = true := decide_eq_true (by omega)
          by_cases hpx : x < p
          · have hdx : decide (x < p) = true := decide_eq_true hpx
            have HOS : Hid (Own ((wr.setCell ⟨g, n, none⟩ (.int .i64 x)).setCell ⟨g, n + 1, none⟩ (.int .i64 p)) w.heap.size (.slice (some ⟨g, 0, none⟩) (k + 1) gc) (P' ++ x :: p :: Q)) := by
              have s1 := (HOQ.out.stored n x).1
              have s2 := (s1.stored (n + 1) p).1
              have e9 := set_swap P' Q p x
              rw [← Hn.out] at e9
              rw [e9] at s2
              exact s2
            have HBS : Hid (Below w.heap.size w ((wr.setCell ⟨g, n, none⟩ (.int .i64 x)).setCell ⟨g, n + 1, none⟩ (.int .i64 p))) := by
              have s1 := (HOQ.out.stored n x).2
              have s2 := ((HOQ.out.stored n x).1.stored (n + 1) p).2
              exact (HBq.out.trans s1).trans s2
            have HQ2 : Hid (∀ q ∈ p :: Q, x < q) := by
              intro q hq
              rcases List.mem_cons.1 hq with rfl | hq
              · exact hpx
              · exact HQ.out q hq
            have HPQ2 : Hid (P' ++ (p :: Q) = M) := by rw [← HPQ.out]; simp [Hid]
            have hP2 : P'.length + (p :: Q).length = k := by rw [List.length_append, List.length_singleton] at hPQ; rw [List.length_cons]; omega
            clear v1 v2 e1 hlen hPQ HEND
            go_wp2_with fail
            go_quiet (fail)
            go_wp2_with fail
            go_region
            go_wp2_with fail
            go_roundw
            case rel => exact ⟨P', p :: Q, by rw [← Hn.out], hP2, HPQ2.out, HQ2.out, HOS.out, ⟨HBS.out.os, HBS.out.tape, HBS.out.output, HBS.out.size, HBS.out.block⟩⟩
            case measure => simp [intOf]
          · have hdx : decide (x < p) = false := decide_eq_false hpx
            have HE2 : Hid (P' ++ [p] ++ x :: Q = srt (l.take (k + 1))) := HEND.out (fun y hy => by
              rcases List.mem_append.1 hy with h | h
              · have hs := HSO.out
                rw [← HPQ.out, List.append_assoc] at hs
                have := (List.pairwise_append.1 hs).2.2 y h p (by simp)
                omega
              · simp at h; omega)
            have HO9 : Hid (Own wr w.heap.size (.slice (some ⟨g, 0, none⟩) (k + 1) gc) (P' ++ [p] ++ x :: Q)) := HOQ.out
            have HNL : Hid ((P' ++ [p] ++ x :: Q).length = k + 1) := hlen
            clear v1 v2 e1 hPQ HEND hlen
            generalize (P' ++ [p] ++ x :: Q : List Int) = N at *
            go_wp2_with fail
            go_quiet (fail)
            have HO10 : Hid (Own (wr.drewN nq) w.heap.size (.slice (some ⟨g, 0, none⟩) (k + 1) gc) N) := HO9.out
            have HBn2 : Hid (Below w.heap.size w (wr.drewN nq)) := below_drewN HBq.out nq
            go_wp2_with fail
            go_roundw
            case rel => exact ⟨k + 1, N, by omega, by go_num, HNL.out, HE2.out, HO10.out, HBn2.out⟩
            case measure => simp [intOf]; omega
    · have HE : Hid (M = srt l) := by
        unfold Hid
        rw [HM.out, List.take_of_length_le (by omega)]
      have hMl : M.length = l.length := by omega
      clear hM
      go_wp2_with fail
      go_ret
      exact ⟨_, rfl, by rw [← HE.out]; exact HO.out, HB.out⟩
end Go.Proofs.Yteagbcijpfpjhaa
