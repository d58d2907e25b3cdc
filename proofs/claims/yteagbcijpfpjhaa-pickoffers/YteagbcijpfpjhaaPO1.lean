/- The reference's at, files. -/
import Derived.Test.YteagbcijpfpjhaaPR2
import Derived.Test.YteagbcijpfpjhaaPR3
import Derived.Test.YteagbcijpfpjhaaPK20
namespace Go.Proofs.Yteagbcijpfpjhaa
open Go.RowKit Go.Shelf

def atF (lv : Int) (L : List Rn) : List Rn := L.filter fun r => decide (r.l = lv)
theorem at_take (lv : Int) (L : List Rn) (k : Nat) (hk : k < L.length) : atF lv (L.take (k + 1)) = if L[k].l = lv then atF lv (L.take k) ++ [L[k]] else atF lv (L.take k) := by
  unfold atF
  rw [List.take_succ_eq_append_getElem hk, List.filter_append]
  by_cases h : L[k].l = lv
  · rw [if_pos h]; simp [h]
  · rw [if_neg h]; simp [h]
set_option maxRecDepth 100000 in
set_option maxHeartbeats 2000000 in
theorem at_any (v : Value) (L : List Rn) (lv : Int) (w : World) (hR : NReads w v L) (h64 : L.length ≤ 1000) : Calls Try.prog 26 #[v, .int .i64 lv] w fun e w' => ∃ v', e = .returned v' ∧ NOwn 53 w' w.heap.size v' (atF lv L) ∧ Below w.heap.size w w' := by
  have HR : Hid (NReads w v L) := hR
  obtain ⟨a, cap, rfl, hl1, hl2⟩ := hR.form
  clear hR
  unfold maxLen at hl2
  go_enter Try.func26, Try.ntmps26
  go_wp2_with fail
  go_loopw [5, 6] (fun mv i wr => ∃ (k : Nat) (M : List Rn), k ≤ L.length ∧ i = .int .i64 (k : Int) ∧ M.length ≤ k ∧ Hid (M = atF lv (L.take k)) ∧ Hid (NOwn 53 wr w.heap.size mv M) ∧ Hid (Below w.heap.size w wr)) (fun _ i _ => L.length - (intOf i).toNat)
  case atStart => exact ⟨0, [], by omega, rfl, by simp, rfl, NOwn.nil _ _ _, Below.refl _ _⟩
  case round =>
    obtain ⟨k, M, hk, rfl, hM, HM, HO, HB⟩ := hrel
    obtain ⟨ma, mc, rfl, _⟩ := HO.out.reads.form
    by_cases hlt : k < L.length
    · obtain ⟨b, off, rfl, hb⟩ := HR.out.ptr (by omega)
      obtain ⟨r, Hr⟩ := hid_ex L[k]
      obtain ⟨c0, c1, c2, c3⟩ := (HR.out.below HB.out).four hlt r Hr.out
      have HAT : Hid (atF lv (L.take (k + 1)) = if r.l = lv then M ++ [r] else M) := by
        unfold Hid
        rw [at_take lv L k hlt, ← Hr.out, ← HM.out]
      by_cases hl : r.l = lv
      · have hbe : (r.l == lv) = true := by simpa using hl
        obtain ⟨M1, HM1⟩ := hid_ex (M ++ [r])
        have HN : Hid (M1 = atF lv (L.take (k + 1))) := by
          unfold Hid
          rw [HAT.out, if_pos hl, HM1.out]
        have hM1 : M1.length ≤ k + 1 := by rw [HM1.out, List.length_append, List.length_singleton]; omega
        have hrk : RnOk r := by rw [Hr.out]; exact HR.out.ok _ (List.getElem_mem hlt)
        obtain ⟨v6, w6, hrun, hown6, hb6⟩ := run_appN (S := 24) (T := 53) Try.underlying24 infoM 24 w.heap.size (.slice ma M.length mc) M r M1 HM1.out HO.out hrk (by omega) HB.out.size
        have HO6 : Hid (NOwn 53 w6 w.heap.size v6 M1) := hown6
        have HB6 : Hid (Below w.heap.size w w6) := HB.out.trans hb6
        clear hown6 hb6 hrk Hr hl
        go_wp2_with (at_builtin; refine wpList_app_run rfl _ _ _ _ rfl rfl _ _ _ rfl rfl hrun ?_)
        clear c0 c1 c2 c3 hrun
        (try go_wp2_with fail)
        go_roundw
        case rel => exact ⟨k + 1, M1, by omega, by go_num, hM1, HN.out, HO6.out, HB6.out⟩
        case measure => simp [intOf]; omega
      · have hbe : (r.l == lv) = false := by simpa using hl
        have HN : Hid (M = atF lv (L.take (k + 1))) := by
          unfold Hid
          rw [HAT.out, if_neg hl]
        clear hl
        go_wp2_with fail
        go_roundw
        case rel => exact ⟨k + 1, M, by omega, by go_num, by omega, HN.out, HO.out, HB.out⟩
        case measure => simp [intOf]; omega
    · have HE : Hid (M = atF lv L) := by
        unfold Hid
        rw [HM.out, List.take_of_length_le (by omega)]
      go_wp2_with fail
      go_ret
      exact ⟨_, rfl, by rw [← HE.out]; exact HO.out, HB.out⟩
set_option maxRecDepth 100000 in
set_option maxHeartbeats 2000000 in
theorem files_any (v : Value) (L : List Rn) (w : World) (hR : NReads w v L) (h64 : L.length ≤ 1000) : Calls Try.prog 25 #[v] w fun e w' => ∃ v', e = .returned v' ∧ Own w' w.heap.size v' (L.map Rn.f) ∧ Below w.heap.size w w' := by
  have HR : Hid (NReads w v L) := hR
  obtain ⟨a, cap, rfl, hl1, hl2⟩ := hR.form
  clear hR
  unfold maxLen at hl2
  go_enter Try.func25, Try.ntmps25
  go_wp2_with fail
  go_loopw [3, 4] (fun mv i wr => ∃ (k : Nat) (M : List Int), k ≤ L.length ∧ i = .int .i64 (k : Int) ∧ M.length ≤ k ∧ Hid (M = (L.take k).map Rn.f) ∧ Hid (Own wr w.heap.size mv M) ∧ Hid (Below w.heap.size w wr)) (fun _ i _ => L.length - (intOf i).toNat)
  case atStart => exact ⟨0, [], by omega, rfl, by simp, rfl, Own.nil _ _, Below.refl _ _⟩
  case round =>
    obtain ⟨k, M, hk, rfl, hM, HM, HO, HB⟩ := hrel
    obtain ⟨ma, mc, rfl, _⟩ := HO.out.form
    by_cases hlt : k < L.length
    · obtain ⟨b, off, rfl, hb⟩ := HR.out.ptr (by omega)
      obtain ⟨r, Hr⟩ := hid_ex L[k]
      obtain ⟨c0, c1, c2, c3⟩ := (HR.out.below HB.out).four hlt r Hr.out
      obtain ⟨M1, HM1⟩ := hid_ex (M ++ [r.f])
      have HN : Hid (M1 = (L.take (k + 1)).map Rn.f) := by
        unfold Hid
        rw [List.take_succ_eq_append_getElem hlt, List.map_append, ← HM.out, ← Hr.out, HM1.out]
        rfl
      have hM1 : M1.length ≤ k + 1 := by rw [HM1.out, List.length_append, List.length_singleton]; omega
      have hsz : w.heap.size ≤ wr.heap.size := HB.out.size
      have hOW : Own wr w.heap.size (.slice ma M.length mc) M := HO.out
      go_wp2_with (at_builtin; refine wpList_app1 rfl _ _ rfl w.heap.size _ M r.f M1 HM1.out rfl rfl rfl hOW (by omega) hsz ?_)
      intro v' w' hO' hB'
      have HO' : Hid (Own w' w.heap.size v' M1) := hO'
      have HBn : Hid (Below w.heap.size w w') := HB.out.trans hB'.out
      clear hO' hB' hOW c0 c1 c2 c3
      go_wp2_with fail
      go_roundw
      case rel => exact ⟨k + 1, M1, by omega, by go_num, hM1, HN.out, HO'.out, HBn.out⟩
      case measure => simp [intOf]; omega
    · have HE : Hid (M = L.map Rn.f) := by
        unfold Hid
        rw [HM.out, List.take_of_length_le (by omega)]
      go_wp2_with fail
      go_ret
      exact ⟨_, rfl, by rw [← HE.out]; exact HO.out, HB.out⟩
theorem at0_len (L : List Rn) : (atF 0 L).length = (filF [0] L).length := by
  rw [fil0_len, List.countP_eq_length_filter]
  rfl
theorem at_one {L : List Rn} (hL : okR L) {lv : Int} (hl : 0 < lv) : (atF lv L).length ≤ 1 := by
  have hp : (atF lv L).Pairwise apart := hL.2.2.sublist List.filter_sublist
  have hm : ∀ r ∈ atF lv L, r.l = lv := fun r hr => by simpa using (List.mem_filter.1 hr).2
  cases h : atF lv L with
  | nil => simp
  | cons a l =>
    cases l with
    | nil => simp
    | cons b l =>
      rw [h] at hp hm
      have h1 := (List.pairwise_cons.1 hp).1 b (List.mem_cons_self ..)
      have h2 := hm a (List.mem_cons_self ..)
      have h3 := hm b (List.mem_cons_of_mem _ (List.mem_cons_self ..))
      exact absurd ⟨by omega, by omega⟩ h1.2
theorem any_at (L : List Rn) (lv m : Int) : L.any (overP lv m) = (atF lv L).any (fun r => decide (m < r.c)) := by
  unfold atF
  rw [List.any_filter]
  rfl
end Go.Proofs.Yteagbcijpfpjhaa
