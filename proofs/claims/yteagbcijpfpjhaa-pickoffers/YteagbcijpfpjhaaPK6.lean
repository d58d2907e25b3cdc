/- The contract of filesOf. -/
import Derived.Test.YteagbcijpfpjhaaPK5
namespace Go.Proofs.Yteagbcijpfpjhaa
open Go.RowKit Go.Shelf

/-- The files of the runs of some levels, as they stand. -/
def pkF (ls : List Int) (L : List Rn) : List Int := (L.filter fun r => has ls r.l).map Rn.f
def filF (ls : List Int) (L : List Rn) : List Int := srt (pkF ls L)
theorem pkF_len (ls : List Int) (L : List Rn) : (pkF ls L).length ≤ L.length := by
  unfold pkF
  rw [List.length_map]
  exact List.length_filter_le _ _
theorem pkF_take (ls : List Int) (L : List Rn) (k : Nat) (hk : k < L.length) : pkF ls (L.take (k + 1)) = if has ls L[k].l then pkF ls (L.take k) ++ [L[k].f] else pkF ls (L.take k) := by
  unfold pkF
  rw [List.take_succ_eq_append_getElem hk, List.filter_append, List.map_append]
  by_cases h : has ls L[k].l
  · rw [if_pos h]; simp [h]
  · rw [if_neg h]; simp [h]
set_option maxRecDepth 100000 in
set_option maxHeartbeats 2000000 in
theorem filesOf_any (v lv : Value) (L : List Rn) (ls : List Int) (w : World) (hR : NReads w v L) (hL : Reads w lv ls) (h64 : L.length ≤ 64) :
    Calls Try.prog 23 #[v, lv] w fun e w' => ∃ v', e = .returned v' ∧ Own w' w.heap.size v' (filF ls L) ∧ Below w.heap.size w w' := by
  have HR : Hid (NReads w v L) := hR
  have HL : Hid (Reads w lv ls) := hL
  obtain ⟨a, cap, rfl, hl1, hl2⟩ := hR.form
  obtain ⟨la, lcap, rfl, hll⟩ := hL.form
  clear hR hL
  unfold maxLen at hl2
  go_enter Try.func23, Try.ntmps23
  go_wp2_with fail
  go_loopw [5, 10] (fun fv i wr => ∃ (k : Nat) (M : List Int), k ≤ L.length ∧ i = .int .i64 (k : Int) ∧ Hid (M = pkF ls (L.take k)) ∧ Hid (Own wr w.heap.size fv M) ∧ Hid (Below w.heap.size w wr)) (fun _ i _ => L.length - (intOf i).toNat)
  case atStart => exact ⟨0, [], by omega, rfl, by simp [pkF, Hid], Own.nil _ _, Below.refl _ _⟩
  case round =>
    obtain ⟨k, M, hk, rfl, HM, HO, HB⟩ := hrel
    obtain ⟨fa, fc, rfl, _⟩ := HO.out.form
    have hM64 : M.length ≤ 64 := by
      have h1 := pkF_len ls (L.take k)
      rw [← HM.out] at h1
      simp at h1
      omega
    by_cases hlt : k < L.length
    · obtain ⟨b, off, rfl, hb⟩ := HR.out.ptr (by omega)
      obtain ⟨r, Hr⟩ := hid_ex L[k]
      obtain ⟨c0, c1, c2, c3⟩ := (HR.out.below HB.out).four hlt r Hr.out
      go_wp2_with (refine stop_store 48 _ _ rfl ?_)
      refine Stop.of ?_
      refine wpList_storeN rfl _ _ _ rfl wr.heap.size 0 (r4 r) rfl rfl _ _ (heap_alloc_new _ _) (by rw [r4_len]; simp) (by kernel_rfl) (by kernel_rfl) ?_
      intro W hW
      obtain ⟨hbW, hxW, hlW⟩ := stW_new hW (by simp [r4_len])
      have HBW : Hid (Below w.heap.size w W) := HB.out.trans (hbW.mono HB.out.size)
      have HOW : Hid (Own W w.heap.size (.slice fa M.length fc) M) := HO.out.below hbW
      obtain ⟨d0, d1, d2, d3⟩ := box4 hxW
      clear hW hbW hxW c0 c1 c2 c3
      go_wp2_with fail
      refine (contains_any _ ls r.l _ (HL.out.below HBW.out)).mono ?_
      rintro e w' ⟨rfl, hw'⟩
      subst w'
      obtain ⟨q, Hq⟩ := hid_ex (has ls r.l)
      rw [← Hq.out]
      cases q with
      | true =>
        obtain ⟨M1, HM1⟩ := hid_ex (M ++ [r.f])
        have HN : Hid (M1 = pkF ls (L.take (k + 1))) := by
          unfold Hid
          rw [pkF_take ls L k hlt, ← Hr.out, ← Hq.out, if_pos rfl, ← HM.out, HM1.out]
        have hsz : w.heap.size ≤ W.heap.size := HBW.out.size
        have hOW : Own W w.heap.size (.slice fa M.length fc) M := HOW.out
        go_wp2_with (at_builtin; refine wpList_app1 rfl _ _ rfl w.heap.size _ M r.f M1 HM1.out rfl rfl rfl hOW (by omega) hsz ?_)
        intro v' w' hO' hB'
        have HO' : Hid (Own w' w.heap.size v' M1) := hO'
        have HBn : Hid (Below w.heap.size w w') := HBW.out.trans hB'.out
        clear hO' hB' hOW d0 d1 d2 d3
        go_wp2_with fail
        go_roundw
        case rel => exact ⟨k + 1, M1, by omega, by go_num, HN.out, HO'.out, HBn.out⟩
        case measure => simp [intOf]; omega
      | false =>
        have HN : Hid (M = pkF ls (L.take (k + 1))) := by
          unfold Hid
          rw [pkF_take ls L k hlt, ← Hr.out, ← Hq.out, if_neg (by simp), ← HM.out]
        clear d0 d1 d2 d3
        go_wp2_with fail
        go_roundw
        case rel => exact ⟨k + 1, M, by omega, by go_num, HN.out, HOW.out, HBW.out⟩
        case measure => simp [intOf]; omega
    · obtain rfl : k = L.length := by omega
      go_wp2_with fail
      refine (sort_any _ M w.heap.size _ HO.out HB.out.size (by omega)).mono ?_
      rintro e w' ⟨rfl, hO', hB'⟩
      have HO' : Hid (Own w' w.heap.size (.slice fa M.length fc) (srt M)) := hO'
      have HBn : Hid (Below w.heap.size w w') := HB.out.trans hB'
      clear hO' hB'
      go_wp2_with fail
      go_ret
      have e : srt M = filF ls L := by rw [HM.out, List.take_length]; rfl
      exact ⟨_, rfl, by rw [← e]; exact HO'.out, HBn.out⟩
end Go.Proofs.Yteagbcijpfpjhaa
