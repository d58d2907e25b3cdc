/- law16's as. -/
import Derived.Test.YteagbcijpfpjhaaPR2
namespace Go.Proofs.Yteagbcijpfpjhaa
open Go.RowKit Go.Shelf

set_option maxRecDepth 100000 in
set_option maxHeartbeats 2000000 in
theorem as_any (v : Value) (L : List Rn) (w : World) (hR : NReads w v L) (h64 : L.length ≤ 1000) : Calls Try.prog 10 #[v] w fun e w' => ∃ v', e = .returned v' ∧ NOwn 53 w' w.heap.size v' L ∧ Below w.heap.size w w' := by
  have HR : Hid (NReads w v L) := hR
  obtain ⟨a, cap, rfl, hl1, hl2⟩ := hR.form
  clear hR
  unfold maxLen at hl2
  go_enter Try.func10, Try.ntmps10
  go_wp2_with fail
  go_loopw [3, 4] (fun mv i wr => ∃ (k : Nat) (M : List Rn), k ≤ L.length ∧ i = .int .i64 (k : Int) ∧ M.length ≤ 1000 ∧ Hid (M = L.take k) ∧ Hid (NOwn 53 wr w.heap.size mv M) ∧ Hid (Below w.heap.size w wr)) (fun _ i _ => L.length - (intOf i).toNat)
  case atStart => exact ⟨0, [], by omega, rfl, by simp, rfl, NOwn.nil _ _ _, Below.refl _ _⟩
  case round =>
    obtain ⟨k, M, hk, rfl, hM, HM, HO, HB⟩ := hrel
    obtain ⟨ma, mc, rfl, _⟩ := HO.out.reads.form
    by_cases hlt : k < L.length
    · obtain ⟨b, off, rfl, hb⟩ := HR.out.ptr (by omega)
      obtain ⟨r, Hr⟩ := hid_ex L[k]
      obtain ⟨c0, c1, c2, c3⟩ := (HR.out.below HB.out).four hlt r Hr.out
      obtain ⟨M1, HM1⟩ := hid_ex (M ++ [r])
      have HN : Hid (M1 = L.take (k + 1)) := by
        unfold Hid
        rw [HM1.out, HM.out, Hr.out, List.take_succ_eq_append_getElem hlt]
      have hM1 : M1.length ≤ 1000 := by rw [HN.out, List.length_take]; omega
      have hrk : RnOk r := by rw [Hr.out]; exact HR.out.ok _ (List.getElem_mem hlt)
      obtain ⟨v6, w6, hrun, hown6, hb6⟩ := run_appN (S := 24) (T := 53) (w0 := wr.drew) Try.underlying24 infoM 24 w.heap.size (.slice ma M.length mc) M r M1 HM1.out HO.out hrk (by omega) HB.out.size
      have HO6 : Hid (NOwn 53 w6 w.heap.size v6 M1) := hown6
      have HB6 : Hid (Below w.heap.size w w6) := HB.out.drew.trans hb6
      clear hown6 hb6 hrk Hr
      go_wp2_with fail
      go_region_law (refine wp_app_run (.tmp 11) (.tmp 33) 24 24 rfl rfl _ _ _ (by simp [Act.eval]) (by simp [Act.eval]) hrun ?_)
      all_goals (
        (try go_wp2_with fail)
        go_roundw
        case rel => exact ⟨k + 1, M1, by omega, by go_num, hM1, HN.out, HO6.out, HB6.out⟩
        case measure => simp [intOf]; omega)
    · have HE : Hid (M = L) := by
        unfold Hid
        rw [HM.out, List.take_of_length_le (by omega)]
      go_wp2_with fail
      go_ret
      exact ⟨_, rfl, by rw [← HE.out]; exact HO.out, HB.out⟩
end Go.Proofs.Yteagbcijpfpjhaa
