/- The reference's All. -/
import Derived.Test.YtfhjhlddbcgfeaaR6
namespace Go.Proofs.Ytfhjhlddbcgfeaa
open Go.RowKit

set_option maxRecDepth 100000 in
set_option maxHeartbeats 1000000 in
theorem refAll_any (v : Value) (bs : List UInt8) (hbl : bs.length ≤ 100000) (w : World) (hR : Reads w v bs) :
    Calls Try.prog 20 #[v] w fun e W' => ∃ (vl : Value) (xs : List Fr), e = .returned (.tuple #[vl, .int .i64 (ksum (alF (bs.length + 1) bs) : Nat)]) ∧ xs.map Fr.p = alF (bs.length + 1) bs ∧ W'.ownsRow w.heap.size 22 1 vl xs.length (xs.map Fr.v) ∧ (∀ x ∈ xs, Own W' w.heap.size x.v x.D) ∧ Below w.heap.size w W' := by
  obtain ⟨a, cap, rfl, _⟩ := hR.form
  have HR : Hid (Reads w (.slice a bs.length cap) bs) := hR
  clear hR
  go_enter Try.func20, Try.ntmps20
  go_wp2_with fail
  go_loopw [4, 5] (fun o x wr => ∃ (m k : Nat) (pre : List Fr), k ≤ bs.length ∧ x = .int .i64 (k : Int) ∧ bs.length - k < m ∧ Hid (alF (bs.length + 1) bs = pre.map Fr.p ++ alF m (bs.drop k)) ∧ Hid (ksum (pre.map Fr.p) = k) ∧ 8 * pre.length ≤ k ∧ Hid (wr.ownsRow w.heap.size 22 1 o pre.length (pre.map Fr.v)) ∧ Hid (∀ x ∈ pre, Own wr w.heap.size x.v x.D) ∧ Hid (Below w.heap.size w wr)) (fun _ x _ => bs.length - (intOf x).toNat)
  case atStart => exact ⟨bs.length + 1, 0, [], by omega, rfl, by omega, rfl, rfl, by simp, World.ownsRow_nil _ _ _ _, (fun _ h => by cases h), Below.refl _ _⟩
  case round =>
    obtain ⟨m, k, pre, hk, rfl, hm, HA, HK, h8, HW, HO, HB⟩ := hrel
    obtain ⟨m, rfl⟩ : ∃ m', m = m' + 1 := ⟨m - 1, by omega⟩
    by_cases hlt : (k : Int) < (bs.length : Int)
    · obtain ⟨b, off, rfl, _, _⟩ := HR.out.at 0 (by omega)
      have hcap := HR.out.cap (by omega)
      have hc : ¬ (cap : Int) = (k : Int) := by omega
      have hc' : ¬ cap = k := by omega
      have i1 : (k : Int) ≤ (bs.length : Int) := by omega
      have i2 : (k : Int) ≤ (cap : Int) := by omega
      have hRk : Reads wr (.slice (some ⟨b, off + k, none⟩) (bs.length - k) (cap - k)) (bs.drop k) := ((HR.out.below HB.out).drop (c := k) hk b off rfl).1 (by omega)
      have hdl : (bs.drop k).length = bs.length - k := by simp
      have hcall := refNext_any _ (bs.drop k) (by omega) _ hRk
      obtain ⟨q, hq⟩ := hid_ex (nxF (bs.drop k))
      rw [← hq.out] at hcall
      have HA2 : Hid (alF (bs.length + 1) bs = pre.map Fr.p ++ (if q.2.2 = 0 then (q.1, q.2.1) :: alF m ((bs.drop k).drop q.2.1) else [])) := by rw [HA.out, hq.out]; rfl
      have HOK : Hid (q.2.2 = 0 → 8 ≤ q.2.1 ∧ q.2.1 ≤ bs.length - k) := by
        intro h
        have := nxF_ok (l := bs.drop k) (by rw [← hq.out]; exact h)
        rw [← hq.out, hdl] at this
        exact this
      obtain ⟨D, z, E⟩ := q
      simp only at hcall HA2 HOK
      have HC : Hid _ := hcall
      clear hcall hq HA hRk hdl
      by_cases hE : E = 0
      · subst hE
        obtain ⟨f1, f2⟩ := HOK.out rfl
        have HA3 : Hid (alF (bs.length + 1) bs = pre.map Fr.p ++ (D, z) :: alF m (bs.drop (k + z))) := by rw [HA2.out, if_pos rfl, List.drop_drop]; rfl
        clear HA2 HOK
        go_wp2_with fail
        refine Calls.mono HC.out ?_
        rintro e w1 ⟨v1, rfl, HO1, hb1⟩
        have HB1 : Hid (Below w.heap.size w w1) := HB.out.trans (hb1.mono HB.out.size)
        have HW1 : Hid (w1.ownsRow w.heap.size 22 1 _ pre.length (pre.map Fr.v)) := row_kc HW.out (Kc.of_below hb1 HB.out.size)
        have HO2 : Hid (∀ x ∈ pre, Own w1 w.heap.size x.v x.D) := fun x hx => (HO.out x hx).below hb1
        have HP1 : Hid (Own w1 w.heap.size v1 D) := HO1.mono HB.out.size
        obtain ⟨a1, c1, rfl, _⟩ := HO1.form
        have hsz1 := HB1.out.size
        obtain ⟨i0, hi, hz0, hz1, hz2⟩ := info_parts infoL
        clear HC HO1 hb1 HB HW HO
        go_wp2_with (at_builtin; refine wpList_append_own _ rfl _ _ 34 rfl w.heap.size 22 i0 (.slice none 0 0) 1 24 Try.underlying34 hi hz0 hz1 hz2 rfl (by decide) _ _ _ rfl (HW1.out.alloc _) ⟨w1.heap.size, 0, none⟩ 1 1 [.slice a1 D.length c1] rfl rfl (cell_one_new _ _ _) (by simp [Value.oneCell']) (by unfold maxLen; omega) (by omega) (by simp; omega) ?_)
        intro v3 w3 hown3 hg3 _
        have HB3 : Hid (Below w.heap.size w w3) := HB1.out.trans (((Below.refl w.heap.size w1).alloc hsz1 _).grown hg3 (by simp; omega) (fun j ej => (World.ownsRow.lt HW1.out j ej).1))
        have HW3 : Hid (w3.ownsRow w.heap.size 22 1 v3 (pre ++ [(⟨.slice a1 D.length c1, D, z⟩ : Fr)]).length ((pre ++ [(⟨.slice a1 D.length c1, D, z⟩ : Fr)]).map Fr.v)) := by
          rw [List.length_append, List.map_append]; exact hown3
        have HO3 : Hid (∀ x ∈ pre ++ [(⟨.slice a1 D.length c1, D, z⟩ : Fr)], Own w3 w.heap.size x.v x.D) := by
          intro x hx
          rcases List.mem_append.1 hx with hx | hx
          · exact own_grown _ (HO2.out x hx) HW1.out (by decide) hg3
          · simp at hx; subst hx; exact own_grown _ HP1.out HW1.out (by decide) hg3
        have HA4 : Hid (alF (bs.length + 1) bs = (pre ++ [(⟨.slice a1 D.length c1, D, z⟩ : Fr)]).map Fr.p ++ alF m (bs.drop (k + z))) := by rw [HA3.out]; simp [Hid, Fr.p]
        have HK2 : Hid (ksum ((pre ++ [(⟨.slice a1 D.length c1, D, z⟩ : Fr)]).map Fr.p) = k + z) := by
          rw [List.map_append, ← HK.out]; exact ksum_snoc _ _
        have h82 : 8 * (pre ++ [(⟨.slice a1 D.length c1, D, z⟩ : Fr)]).length ≤ k + z := by simp; omega
        have H82 : Hid (8 * (pre ++ [(⟨.slice a1 D.length c1, D, z⟩ : Fr)]).length ≤ k + z) := h82
        clear hown3 hg3 HB1 HW1 HO2 HP1 HA3 HK h82 hi hz0 hz1 hz2
        go_wp2_with fail
        go_roundw
        case rel => exact ⟨m, k + z, _, by omega, by simp, by omega, HA4, HK2, H82.out, HW3, HO3, HB3⟩
        case measure => simp [intOf]; omega
      · have HA3 : Hid (alF (bs.length + 1) bs = pre.map Fr.p) := by rw [HA2.out, if_neg hE, List.append_nil]; rfl
        have jE : (E == 0) = false := by simpa using hE
        have jE2 : (E != 0) = true := by simpa using hE
        clear HA2 HOK hE
        go_wp2_with fail
        refine Calls.mono HC.out ?_
        rintro e w1 ⟨v1, rfl, HO1, hb1⟩
        have HB1 : Hid (Below w.heap.size w w1) := HB.out.trans (hb1.mono HB.out.size)
        have HW1 : Hid (w1.ownsRow w.heap.size 22 1 _ pre.length (pre.map Fr.v)) := row_kc HW.out (Kc.of_below hb1 HB.out.size)
        have HO2 : Hid (∀ x ∈ pre, Own w1 w.heap.size x.v x.D) := fun x hx => (HO.out x hx).below hb1
        clear HC HO1 hb1 HB HW HO
        go_wp2_with fail
        go_ret2
        exact ⟨_, pre, by rw [HA3.out, HK.out]; rfl, HA3.out.symm, HW1.out, HO2.out, HB1.out⟩
    · have hke : k = bs.length := by omega
      subst hke
      have HA3 : Hid (alF (bs.length + 1) bs = pre.map Fr.p) := by
        rw [HA.out, List.drop_length]
        simp [Hid, alF, nxF]
      clear HA
      go_wp2_with fail
      go_ret2
      exact ⟨_, by rw [HA3.out, HK.out]; rfl, pre, HA3.out.symm, HW.out, HO.out, HB.out⟩
end Go.Proofs.Ytfhjhlddbcgfeaa
