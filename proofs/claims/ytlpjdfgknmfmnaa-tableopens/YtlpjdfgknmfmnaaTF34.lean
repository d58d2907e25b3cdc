/- RK3 KP0 TR0 TR2, joined. -/
import Derived.Test.YtlpjdfgknmfmnaaTF2
import Derived.Test.YtlpjdfgknmfmnaaTF7
import Derived.Test.YtlpjdfgknmfmnaaTF18
import Derived.Test.YtlpjdfgknmfmnaaTF25
import Derived.Test.YtlpjdfgknmfmnaaTF28
import Derived.Test.YtlpjdfgknmfmnaaTF31
import Derived.Test.YtlpjdfgknmfmnaaTF33
/- The contract of the reference's Write. -/
namespace Go.Proofs.Ytlpjdfgknmfmnaa
open Go.RowKit

set_option maxRecDepth 100000 in
set_option maxHeartbeats 8000000 in
theorem refWrite_any (v : Value) (l : List Pr) (w : World) (hP : PReads w v l) :
    Calls Try.prog 30 #[v] w fun e w' => ∃ u, e = .returned (.tuple #[u, .int .i64 (mbF l)]) ∧ Own w' w.heap.size u (wrB l) ∧ Below w.heap.size w w' := by
  obtain ⟨a, cap, rfl, hcap, hm, h3⟩ := hP
  unfold maxLen at hm
  have H3 : Hid _ := h3
  clear h3
  go_enter Try.func30, Try.ntmps30
  by_cases g1 : (4096 : Int) < (l.length : Int)
  · go_wp2_with fail
    go_ret2
    have hmb : mbF l = 2 := by unfold mbF; rw [if_pos (by omega)]
    refine ⟨_, by rw [hmb]; rfl, ?_, Below.refl _ _⟩
    unfold wrB; rw [hmb, if_neg (by decide)]
    exact Own.nil _ _
  go_wp2_with fail
  go_loopw [4] (fun i wr => ∃ k : Nat, k ≤ l.length ∧ i = .int .i64 (k : Int) ∧ Hid (∀ x ∈ l.take k, okP x) ∧ Hid (w = wr)) (fun i _ => l.length - (intOf i).toNat)
  case atStart => exact ⟨0, by omega, rfl, fun x hx => by simp at hx, (rfl : w = w)⟩
  case round =>
    obtain ⟨k, hk, rfl, HO, HE⟩ := hrel
    obtain rfl := HE.out
    clear HE
    by_cases hlt : k < l.length
    · obtain ⟨bA, oA, rfl, hbA, hA⟩ := H3.out.resolve_left (fun h => by rw [h] at hlt; simp at hlt)
      obtain ⟨kv, vv, c0, c1, r0, r1⟩ := hA k hlt
      obtain ⟨X, HX⟩ := hid_ex l[k]
      rw [← HX.out] at r0 r1
      have HTk : Hid (l.take (k + 1) = l.take k ++ [X]) := by unfold Hid; rw [List.take_add_one, List.getElem?_eq_getElem hlt, HX.out]; rfl
      have HXm : Hid (X ∈ l) := by rw [HX.out]; exact List.getElem_mem hlt
      obtain ⟨ak, ck, rfl, hmk⟩ := r0.form
      obtain ⟨av, cv, rfl, hmv⟩ := r1.form
      unfold maxLen at hmk hmv
      clear hA r0 r1 HX
      by_cases e1 : (4096 : Int) < (X.1.length : Int)
      · go_wp2_with fail
        go_ret2
        have hmb : mbF l = 2 := by
          unfold mbF
          rw [if_neg (by omega), if_pos (fun h => by have := (h X HXm.out).1; omega)]
        refine ⟨_, by rw [hmb]; rfl, ?_, Below.refl _ _⟩
        unfold wrB; rw [hmb, if_neg (by decide)]
        exact Own.nil _ _
      by_cases e2 : (4096 : Int) < (X.2.length : Int)
      · go_wp2_with fail
        go_ret2
        have hmb : mbF l = 2 := by
          unfold mbF
          rw [if_neg (by omega), if_pos (fun h => by have := (h X HXm.out).2; omega)]
        refine ⟨_, by rw [hmb]; rfl, ?_, Below.refl _ _⟩
        unfold wrB; rw [hmb, if_neg (by decide)]
        exact Own.nil _ _
      go_wp2_with fail
      go_roundw
      case rel =>
        refine ⟨k + 1, by omega, by go_num, ?_, by first | exact trivial | exact (rfl : w = w)⟩
        rw [HTk.out]
        intro y hy
        rcases List.mem_append.1 hy with hy | hy
        · exact HO.out y hy
        · simp at hy; subst hy; exact ⟨by omega, by omega⟩
      case measure => simp [intOf]; omega
    · have hkl : k = l.length := by omega
      rw [hkl, List.take_length] at HO
      have HL2 : Hid (∀ x ∈ l, okP x) := HO
      clear HO hkl hk
      go_wp2_with fail
      go_loopw [5, 6] (fun o i wr => ∃ k : Nat, k ≤ l.length ∧ i = .int .i64 (k : Int) ∧ Hid (Own wr w.heap.size o (wbF 0 [] (l.take k))) ∧ Hid (rise 0 [] (l.take k)) ∧ Hid (Below w.heap.size w wr)) (fun _ i _ => l.length - (intOf i).toNat)
      case atStart => exact ⟨0, by omega, rfl, Own.nil _ _, by simp [Hid, rise], Below.refl _ _⟩
      case round =>
        rename World => wo
        obtain ⟨k, hk, rfl, HO, HR, HWo⟩ := hrel
        by_cases hlt : k < l.length
        · obtain ⟨bA, oA, rfl, hbA, hA⟩ := H3.out.resolve_left (fun h => by rw [h] at hlt; simp at hlt)
          obtain ⟨kv, vv, q0, q1, r0, r1⟩ := hA k hlt
          have HAA : Hid _ := hA
          clear hA
          obtain ⟨X, HX⟩ := hid_ex l[k]
          rw [← HX.out] at r0 r1
          have HTk : Hid (l.take (k + 1) = l.take k ++ [X]) := by unfold Hid; rw [List.take_add_one, List.getElem?_eq_getElem hlt, HX.out]; rfl
          have hXo : okP X := by rw [HX.out]; exact HL2.out _ (List.getElem_mem hlt)
          obtain ⟨hX1, hX2⟩ := hXo
          have c0 := (HWo.out.cell (p := ⟨bA, oA + k * 2, none⟩) hbA).trans q0
          have HRk : Hid (Reads w kv X.1) := r0
          have HRv : Hid (Reads w vv X.2) := r1
          obtain ⟨ak, ck, rfl, hmk⟩ := r0.form
          obtain ⟨av, cv, rfl, hmv⟩ := r1.form
          unfold maxLen at hmk hmv
          clear r0 r1
          obtain ⟨AH, HAH⟩ := hid_ex (lastK [] (l.take k))
          obtain ⟨P, HPp⟩ := hid_ex (wbF 0 [] (l.take k))
          have hPl : P.length ≤ 4096 * 8198 := by
            rw [HPp.out]
            have := wbF_len (l.take k) 0 [] (fun x hx => HL2.out x (List.mem_of_mem_take hx))
            rw [List.length_take] at this
            have h2 : min k l.length * 8198 ≤ 4096 * 8198 := Nat.mul_le_mul_right _ (by omega)
            omega
          have HNx : Hid (wbF 0 [] (l.take (k + 1)) = P ++ pb k AH X) := by
            unfold Hid
            rw [HTk.out, wbF_snoc, ← HPp.out, ← HAH.out, List.length_take, Nat.zero_add, Nat.min_eq_left hk]
          rw [← HPp.out] at HO
          clear HPp
          by_cases hk0 : k = 0
          · have HRI : Hid (rise 0 [] (l.take (k + 1))) := by rw [hk0]; exact rise_one l
            obtain ⟨s, HS⟩ := hid_ex (svd k AH X.1)
            have hs0 : s = 0 := by rw [HS.out]; exact svd_zero (by omega)
            subst hk0
            simp only [Nat.zero_mul, Nat.add_zero] at q0 q1 c0
            go_wp2_with fail
            go_quiet (fail)
            obtain ⟨w1, HW1⟩ := hid_ex (wo.drewN nq)
            rw [← HW1.out]
            have HB1 : Hid (Below w.heap.size w w1) := by rw [HW1.out]; exact below_drewN HWo.out _
            have HO1 : Hid (Own w1 w.heap.size u5 P) := by rw [HW1.out]; exact HO.out.below (below_drewN (Below.refl _ _) _)
            clear HW1 HWo HO
            have HPB : Hid (pb 0 AH X = sh 0 ++ sh X.1.length ++ sh X.2.length ++ X.1.drop 0 ++ X.2) := by
              unfold Hid pb
              rw [← HS.out, hs0, Nat.sub_zero]
              simp only [List.append_assoc]
            clear hs0
            have l1 := sh2 (n := 0) (by omega)
            have l2 := sh2 (n := X.1.length) (by omega)
            have l3 := sh2 (n := X.2.length) (by omega)
            obtain ⟨ad, cd, hsl, hrd⟩ := sl_from (c := 0) HRk.out (by omega)
            have HSL : Hid (∀ w', (Instr.slice 25 (.slice ak X.1.length ck) (some (.int .i64 (0 : Int))) none none).run Try.prog w' = .ok (.slice ad (X.1.length - 0) cd) w') := hsl
            have HRd : Hid (Reads w (.slice ad (X.1.length - 0) cd) (X.1.drop 0)) := hrd
            clear hsl hrd
            have hdl : (X.1.drop 0).length ≤ 4096 := by simp; omega
            go_wp2_with fail
            refine (refShort_own 0 (by omega) _).mono ?_
            rintro e w2 ⟨v2, rfl, ho2, hb2⟩
            have HB2 : Hid (Below w.heap.size w w2) := HB1.out.trans (hb2.mono HB1.out.size)
            have HO2 : Hid (Own w2 w.heap.size u5 P) := HO1.out.below hb2
            have HR2 : Hid (Reads w2 v2 (sh 0)) := reads_own ho2
            have hz2 := HB2.out.size
            clear hb2 ho2 HB1 HO1
            go_wp2_with (at_builtin; refine wpList_appK rfl _ _ rfl w.heap.size _ _ P (sh 0) _ rfl rfl rfl HO2.out HR2.out (by omega) hz2 ?_)
            intro v3 w3 ho3 HB3 _
            have HO3 : Hid (Own w3 w.heap.size v3 (P ++ sh 0)) := ho3
            have HW3 : Hid (Below w.heap.size w w3) := HB2.out.trans HB3.out
            clear ho3 HB3 HB2 HO2 HR2 hz2
            have c0 := (HW3.out.cell (p := ⟨bA, oA, none⟩) hbA).trans q0
            go_wp2_with fail
            refine (refShort_own X.1.length (by omega) _).mono ?_
            rintro e w4 ⟨v4, rfl, ho4, hb4⟩
            have HB4 : Hid (Below w.heap.size w w4) := HW3.out.trans (hb4.mono HW3.out.size)
            have HO4 : Hid (Own w4 w.heap.size v3 (P ++ sh 0)) := HO3.out.below hb4
            have HR4 : Hid (Reads w4 v4 (sh X.1.length)) := reads_own ho4
            have hz4 := HB4.out.size
            clear hb4 ho4 HW3 HO3 c0
            go_wp2_with (at_builtin; refine wpList_appK rfl _ _ rfl w.heap.size _ _ (P ++ sh 0) (sh X.1.length) _ rfl rfl rfl HO4.out HR4.out (by simp only [List.length_append]; omega) hz4 ?_)
            intro v5 w5 ho5 HB5 _
            have HO5 : Hid (Own w5 w.heap.size v5 (P ++ sh 0 ++ sh X.1.length)) := by
              have h := ho5
              (try simp only [List.append_assoc] at h)
              (try simp only [List.append_assoc])
              (try rw [List.drop_zero])
              exact h
            have HW5 : Hid (Below w.heap.size w w5) := HB4.out.trans HB5.out
            clear ho5 HB5 HB4 HO4 HR4 hz4
            have c1 := (HW5.out.cell (p := ⟨bA, oA + 1, none⟩) hbA).trans q1
            go_wp2_with fail
            refine (refShort_own X.2.length (by omega) _).mono ?_
            rintro e w6 ⟨v6, rfl, ho6, hb6⟩
            have HB6 : Hid (Below w.heap.size w w6) := HW5.out.trans (hb6.mono HW5.out.size)
            have HO6 : Hid (Own w6 w.heap.size v5 (P ++ sh 0 ++ sh X.1.length)) := HO5.out.below hb6
            have HR6 : Hid (Reads w6 v6 (sh X.2.length)) := reads_own ho6
            have hz6 := HB6.out.size
            clear hb6 ho6 HW5 HO5 c1
            go_wp2_with (at_builtin; refine wpList_appK rfl _ _ rfl w.heap.size _ _ (P ++ sh 0 ++ sh X.1.length) (sh X.2.length) _ rfl rfl rfl HO6.out HR6.out (by simp only [List.length_append]; omega) hz6 ?_)
            intro v7 w7 ho7 HB7 _
            have HO7 : Hid (Own w7 w.heap.size v7 (P ++ sh 0 ++ sh X.1.length ++ sh X.2.length)) := by
              have h := ho7
              (try simp only [List.append_assoc] at h)
              (try simp only [List.append_assoc])
              (try rw [List.drop_zero])
              exact h
            have HW7 : Hid (Below w.heap.size w w7) := HB6.out.trans HB7.out
            clear ho7 HB7 HB6 HO6 HR6 hz6
            have c0 := (HW7.out.cell (p := ⟨bA, oA, none⟩) hbA).trans q0
            have hsl := HSL.out
            have hz7 := HW7.out.size
            have hr7 := HRd.out.below HW7.out
            go_wp2_with (at_builtin; refine wpList_appK rfl _ _ rfl w.heap.size _ _ (P ++ sh 0 ++ sh X.1.length ++ sh X.2.length) (X.1.drop 0) _ rfl rfl rfl HO7.out hr7 (by simp only [List.length_append]; omega) hz7 ?_)
            intro v8 w8 ho8 HB8 _
            have HO8 : Hid (Own w8 w.heap.size v8 (P ++ sh 0 ++ sh X.1.length ++ sh X.2.length ++ X.1.drop 0)) := by
              have h := ho8
              (try simp only [List.append_assoc] at h)
              (try simp only [List.append_assoc])
              (try rw [List.drop_zero])
              exact h
            have HW8 : Hid (Below w.heap.size w w8) := HW7.out.trans HB8.out
            clear ho8 HB8 HW7 HO7 c0 hsl hz7 hr7
            have c1 := (HW8.out.cell (p := ⟨bA, oA + 1, none⟩) hbA).trans q1
            have hz8 := HW8.out.size
            have hr8 := HRv.out.below HW8.out
            go_wp2_with (at_builtin; refine wpList_appK rfl _ _ rfl w.heap.size _ _ (P ++ sh 0 ++ sh X.1.length ++ sh X.2.length ++ X.1.drop 0) X.2 _ rfl rfl rfl HO8.out hr8 (by simp only [List.length_append]; omega) hz8 ?_)
            intro v9 w9 ho9 HB9 _
            have HO9 : Hid (Own w9 w.heap.size v9 (wbF 0 [] (l.take (0 + 1)))) := by
              rw [HNx.out, HPB.out]
              have h := ho9
              (try simp only [List.append_assoc] at h)
              (try simp only [List.append_assoc])
              (try rw [List.drop_zero])
              exact h
            have HW9 : Hid (Below w.heap.size w w9) := HW8.out.trans HB9.out
            clear ho9 HB9 HW8 HO8 c1 hz8 hr8
            go_wp2_with fail
            go_roundw
            case rel => exact ⟨0 + 1, by omega, by go_num, HO9, HRI, HW9⟩
            case measure => simp [intOf]; omega
          · have hk1 : 0 < k := by omega
            clear hk0
            have hkp : k - 1 < l.length := by omega
            obtain ⟨ky, vy, y0, -, ry, -⟩ := HAA.out (k - 1) hkp
            have HST : Hid (rise 0 [] (l.take (k + 1)) ↔ rise 0 [] (l.take k) ∧ ltK (l[k - 1]'hkp).1 l[k].1) := rise_step hk1 hlt
            have HAH2 : Hid (AH = (l[k - 1]'hkp).1) := by
              unfold Hid
              have e : l.take k = l.take (k - 1) ++ [l[k - 1]'hkp] := by
                have := List.take_add_one (l := l) (i := k - 1)
                rw [show k - 1 + 1 = k by omega, List.getElem?_eq_getElem hkp] at this
                exact this
              rw [HAH.out, e]
              exact lastK_snoc _ _ _
            rw [← HAH2.out, ← HX.out] at HST
            rw [← HAH2.out] at ry
            have HRy : Hid (Reads w ky AH) := ry
            obtain ⟨ay, cy, rfl, hmy⟩ := ry.form
            clear ry
            obtain ⟨k', HK'⟩ := hid_ex (k - 1)
            rw [← HK'.out] at y0
            have hkp2 : k' < l.length := by rw [HK'.out]; exact hkp
            have j1 : (k : Int) - 1 = (k' : Int) := by rw [HK'.out]; omega
            have c9 := (HWo.out.cell (p := ⟨bA, oA + k' * 2, none⟩) hbA).trans y0
            have hq1 : ∀ n, (convert 25 9 (.slice ay AH.length cy)).run Try.prog (wo.drewN n) = .ok (.string ⟨AH.toArray⟩) (wo.drewN n) := fun n => reads_text (HRy.out.below (below_drewN HWo.out n))
            have hq2 : ∀ n, (convert 25 9 (.slice ak X.1.length ck)).run Try.prog (wo.drewN n) = .ok (.string ⟨X.1.toArray⟩) (wo.drewN n) := fun n => reads_text (HRk.out.below (below_drewN HWo.out n))
            by_cases hlt2 : ltK AH X.1
            · have hle : Op.bytesLess AH X.1 = true := by rw [rless_ltK]; exact decide_eq_true hlt2
              have HRI : Hid (rise 0 [] (l.take (k + 1))) := HST.out.2 ⟨HR.out, hlt2⟩
              obtain ⟨s, HS⟩ := hid_ex (svd k AH X.1)
              by_cases i8 : (k : Int) % 8 = 0
              · have hs0 : s = 0 := by rw [HS.out]; exact svd_zero (by omega)
                go_wp2_with fail
                go_quiet (fail)
                clear hq1 hq2 c9 c0
                obtain ⟨w1, HW1⟩ := hid_ex (wo.drewN nq)
                rw [← HW1.out]
                have HB1 : Hid (Below w.heap.size w w1) := by rw [HW1.out]; exact below_drewN HWo.out _
                have HO1 : Hid (Own w1 w.heap.size u5 P) := by rw [HW1.out]; exact HO.out.below (below_drewN (Below.refl _ _) _)
                clear HW1 HWo HO
                have HPB : Hid (pb k AH X = sh 0 ++ sh X.1.length ++ sh X.2.length ++ X.1.drop 0 ++ X.2) := by
                  unfold Hid pb
                  rw [← HS.out, hs0, Nat.sub_zero]
                  simp only [List.append_assoc]
                clear hs0
                have l1 := sh2 (n := 0) (by omega)
                have l2 := sh2 (n := X.1.length) (by omega)
                have l3 := sh2 (n := X.2.length) (by omega)
                obtain ⟨ad, cd, hsl, hrd⟩ := sl_from (c := 0) HRk.out (by omega)
                have HSL : Hid (∀ w', (Instr.slice 25 (.slice ak X.1.length ck) (some (.int .i64 (0 : Int))) none none).run Try.prog w' = .ok (.slice ad (X.1.length - 0) cd) w') := hsl
                have HRd : Hid (Reads w (.slice ad (X.1.length - 0) cd) (X.1.drop 0)) := hrd
                clear hsl hrd
                have hdl : (X.1.drop 0).length ≤ 4096 := by simp; omega
                go_wp2_with fail
                refine (refShort_own 0 (by omega) _).mono ?_
                rintro e w2 ⟨v2, rfl, ho2, hb2⟩
                have HB2 : Hid (Below w.heap.size w w2) := HB1.out.trans (hb2.mono HB1.out.size)
                have HO2 : Hid (Own w2 w.heap.size u5 P) := HO1.out.below hb2
                have HR2 : Hid (Reads w2 v2 (sh 0)) := reads_own ho2
                have hz2 := HB2.out.size
                clear hb2 ho2 HB1 HO1
                go_wp2_with (at_builtin; refine wpList_appK rfl _ _ rfl w.heap.size _ _ P (sh 0) _ rfl rfl rfl HO2.out HR2.out (by omega) hz2 ?_)
                intro v3 w3 ho3 HB3 _
                have HO3 : Hid (Own w3 w.heap.size v3 (P ++ sh 0)) := ho3
                have HW3 : Hid (Below w.heap.size w w3) := HB2.out.trans HB3.out
                clear ho3 HB3 HB2 HO2 HR2 hz2
                have c0 := (HW3.out.cell (p := ⟨bA, oA + k * 2, none⟩) hbA).trans q0
                go_wp2_with fail
                refine (refShort_own X.1.length (by omega) _).mono ?_
                rintro e w4 ⟨v4, rfl, ho4, hb4⟩
                have HB4 : Hid (Below w.heap.size w w4) := HW3.out.trans (hb4.mono HW3.out.size)
                have HO4 : Hid (Own w4 w.heap.size v3 (P ++ sh 0)) := HO3.out.below hb4
                have HR4 : Hid (Reads w4 v4 (sh X.1.length)) := reads_own ho4
                have hz4 := HB4.out.size
                clear hb4 ho4 HW3 HO3 c0
                go_wp2_with (at_builtin; refine wpList_appK rfl _ _ rfl w.heap.size _ _ (P ++ sh 0) (sh X.1.length) _ rfl rfl rfl HO4.out HR4.out (by simp only [List.length_append]; omega) hz4 ?_)
                intro v5 w5 ho5 HB5 _
                have HO5 : Hid (Own w5 w.heap.size v5 (P ++ sh 0 ++ sh X.1.length)) := by
                  have h := ho5
                  (try simp only [List.append_assoc] at h)
                  (try simp only [List.append_assoc])
                  (try rw [List.drop_zero])
                  exact h
                have HW5 : Hid (Below w.heap.size w w5) := HB4.out.trans HB5.out
                clear ho5 HB5 HB4 HO4 HR4 hz4
                have c1 := (HW5.out.cell (p := ⟨bA, oA + k * 2 + 1, none⟩) hbA).trans q1
                go_wp2_with fail
                refine (refShort_own X.2.length (by omega) _).mono ?_
                rintro e w6 ⟨v6, rfl, ho6, hb6⟩
                have HB6 : Hid (Below w.heap.size w w6) := HW5.out.trans (hb6.mono HW5.out.size)
                have HO6 : Hid (Own w6 w.heap.size v5 (P ++ sh 0 ++ sh X.1.length)) := HO5.out.below hb6
                have HR6 : Hid (Reads w6 v6 (sh X.2.length)) := reads_own ho6
                have hz6 := HB6.out.size
                clear hb6 ho6 HW5 HO5 c1
                go_wp2_with (at_builtin; refine wpList_appK rfl _ _ rfl w.heap.size _ _ (P ++ sh 0 ++ sh X.1.length) (sh X.2.length) _ rfl rfl rfl HO6.out HR6.out (by simp only [List.length_append]; omega) hz6 ?_)
                intro v7 w7 ho7 HB7 _
                have HO7 : Hid (Own w7 w.heap.size v7 (P ++ sh 0 ++ sh X.1.length ++ sh X.2.length)) := by
                  have h := ho7
                  (try simp only [List.append_assoc] at h)
                  (try simp only [List.append_assoc])
                  (try rw [List.drop_zero])
                  exact h
                have HW7 : Hid (Below w.heap.size w w7) := HB6.out.trans HB7.out
                clear ho7 HB7 HB6 HO6 HR6 hz6
                have c0 := (HW7.out.cell (p := ⟨bA, oA + k * 2, none⟩) hbA).trans q0
                have hsl := HSL.out
                have hz7 := HW7.out.size
                have hr7 := HRd.out.below HW7.out
                go_wp2_with (at_builtin; refine wpList_appK rfl _ _ rfl w.heap.size _ _ (P ++ sh 0 ++ sh X.1.length ++ sh X.2.length) (X.1.drop 0) _ rfl rfl rfl HO7.out hr7 (by simp only [List.length_append]; omega) hz7 ?_)
                intro v8 w8 ho8 HB8 _
                have HO8 : Hid (Own w8 w.heap.size v8 (P ++ sh 0 ++ sh X.1.length ++ sh X.2.length ++ X.1.drop 0)) := by
                  have h := ho8
                  (try simp only [List.append_assoc] at h)
                  (try simp only [List.append_assoc])
                  (try rw [List.drop_zero])
                  exact h
                have HW8 : Hid (Below w.heap.size w w8) := HW7.out.trans HB8.out
                clear ho8 HB8 HW7 HO7 c0 hsl hz7 hr7
                have c1 := (HW8.out.cell (p := ⟨bA, oA + k * 2 + 1, none⟩) hbA).trans q1
                have hz8 := HW8.out.size
                have hr8 := HRv.out.below HW8.out
                go_wp2_with (at_builtin; refine wpList_appK rfl _ _ rfl w.heap.size _ _ (P ++ sh 0 ++ sh X.1.length ++ sh X.2.length ++ X.1.drop 0) X.2 _ rfl rfl rfl HO8.out hr8 (by simp only [List.length_append]; omega) hz8 ?_)
                intro v9 w9 ho9 HB9 _
                have HO9 : Hid (Own w9 w.heap.size v9 (wbF 0 [] (l.take (k + 1)))) := by
                  rw [HNx.out, HPB.out]
                  have h := ho9
                  (try simp only [List.append_assoc] at h)
                  (try simp only [List.append_assoc])
                  (try rw [List.drop_zero])
                  exact h
                have HW9 : Hid (Below w.heap.size w w9) := HW8.out.trans HB9.out
                clear ho9 HB9 HW8 HO8 c1 hz8 hr8
                go_wp2_with fail
                go_roundw
                case rel => exact ⟨k + 1, by omega, by go_num, HO9, HRI, HW9⟩
                case measure => simp [intOf]; omega
              · have HS0 : Hid (s = com AH X.1) := by rw [HS.out]; exact svd_com (by omega)
                have hs1 : s ≤ X.1.length := by rw [HS.out]; exact (svd_le _ _ _).2
                go_wp2_with fail
                go_quiet (fail)
                clear hq1 hq2
                obtain ⟨wp, HWP⟩ := hid_ex (wo.drewN nq)
                rw [← HWP.out]
                have HBp : Hid (Below w.heap.size w wp) := by rw [HWP.out]; exact below_drewN HWo.out _
                have HOp : Hid (Own wp w.heap.size u5 P) := by rw [HWP.out]; exact HO.out.below (below_drewN (Below.refl _ _) _)
                have c0' := (HBp.out.cell (p := ⟨bA, oA + k * 2, none⟩) hbA).trans q0
                have c9' := (HBp.out.cell (p := ⟨bA, oA + k' * 2, none⟩) hbA).trans y0
                have HCL : ∀ n, Calls Try.prog 67 #[.slice ay AH.length cy, .slice ak X.1.length ck] (wp.drewN n) (fun e w' => e = .returned (.int .i64 (s : Int)) ∧ ∃ m, w' = wp.drewN m) := by
                  intro n
                  refine (refCommon_any _ AH X.1 _ _ _ rfl (HRy.out.below (below_drewN HBp.out _)) (HRk.out.below (below_drewN HBp.out _))).mono ?_
                  intro e w' h
                  exact ⟨by rw [h.1, ← HS0.out], by obtain ⟨m, hm⟩ := h.2; exact ⟨_, hm.trans (World.drewN_drewN _ _ _)⟩⟩
                clear HWP c0 c9 HWo HO
                have HWo : Hid (Below w.heap.size w wp) := HBp
                have HO : Hid (Own wp w.heap.size u5 P) := HOp
                clear HBp HOp
                go_wp2_with fail
                go_quiet (exact HCL _)
                clear c0' c9' HCL
                obtain ⟨w1, HW1⟩ := hid_ex (wp.drewN nq)
                rw [← HW1.out]
                have HB1 : Hid (Below w.heap.size w w1) := by rw [HW1.out]; exact below_drewN HWo.out _
                have HO1 : Hid (Own w1 w.heap.size u5 P) := by rw [HW1.out]; exact HO.out.below (below_drewN (Below.refl _ _) _)
                clear HW1 HWo HO
                obtain ⟨m, hmm⟩ : ∃ m : Nat, (X.1.length : Int) - (s : Int) = (m : Int) := ⟨X.1.length - s, by omega⟩
                have HPB : Hid (pb k AH X = sh s ++ sh m ++ sh X.2.length ++ X.1.drop s ++ X.2) := by
                  unfold Hid pb
                  rw [← HS.out, show X.1.length - s = m by omega]
                  simp only [List.append_assoc]
                have l1 := sh2 (n := s) (by omega)
                have l2 := sh2 (n := m) (by omega)
                have l3 := sh2 (n := X.2.length) (by omega)
                obtain ⟨ad, cd, hsl, hrd⟩ := sl_from (c := s) HRk.out (by omega)
                have HSL : Hid (∀ w', (Instr.slice 25 (.slice ak X.1.length ck) (some (.int .i64 (s : Int))) none none).run Try.prog w' = .ok (.slice ad (X.1.length - s) cd) w') := hsl
                have HRd : Hid (Reads w (.slice ad (X.1.length - s) cd) (X.1.drop s)) := hrd
                clear hsl hrd
                have hdl : (X.1.drop s).length ≤ 4096 := by simp; omega
                go_wp2_with fail
                refine (refShort_own s (by omega) _).mono ?_
                rintro e w2 ⟨v2, rfl, ho2, hb2⟩
                have HB2 : Hid (Below w.heap.size w w2) := HB1.out.trans (hb2.mono HB1.out.size)
                have HO2 : Hid (Own w2 w.heap.size u5 P) := HO1.out.below hb2
                have HR2 : Hid (Reads w2 v2 (sh s)) := reads_own ho2
                have hz2 := HB2.out.size
                clear hb2 ho2 HB1 HO1
                go_wp2_with (at_builtin; refine wpList_appK rfl _ _ rfl w.heap.size _ _ P (sh s) _ rfl rfl rfl HO2.out HR2.out (by omega) hz2 ?_)
                intro v3 w3 ho3 HB3 _
                have HO3 : Hid (Own w3 w.heap.size v3 (P ++ sh s)) := ho3
                have HW3 : Hid (Below w.heap.size w w3) := HB2.out.trans HB3.out
                clear ho3 HB3 HB2 HO2 HR2 hz2
                have c0 := (HW3.out.cell (p := ⟨bA, oA + k * 2, none⟩) hbA).trans q0
                go_wp2_with fail
                refine (refShort_own m (by omega) _).mono ?_
                rintro e w4 ⟨v4, rfl, ho4, hb4⟩
                have HB4 : Hid (Below w.heap.size w w4) := HW3.out.trans (hb4.mono HW3.out.size)
                have HO4 : Hid (Own w4 w.heap.size v3 (P ++ sh s)) := HO3.out.below hb4
                have HR4 : Hid (Reads w4 v4 (sh m)) := reads_own ho4
                have hz4 := HB4.out.size
                clear hb4 ho4 HW3 HO3 c0
                go_wp2_with (at_builtin; refine wpList_appK rfl _ _ rfl w.heap.size _ _ (P ++ sh s) (sh m) _ rfl rfl rfl HO4.out HR4.out (by simp only [List.length_append]; omega) hz4 ?_)
                intro v5 w5 ho5 HB5 _
                have HO5 : Hid (Own w5 w.heap.size v5 (P ++ sh s ++ sh m)) := by
                  have h := ho5
                  (try simp only [List.append_assoc] at h)
                  (try simp only [List.append_assoc])
                  (try rw [List.drop_zero])
                  exact h
                have HW5 : Hid (Below w.heap.size w w5) := HB4.out.trans HB5.out
                clear ho5 HB5 HB4 HO4 HR4 hz4
                have c1 := (HW5.out.cell (p := ⟨bA, oA + k * 2 + 1, none⟩) hbA).trans q1
                go_wp2_with fail
                refine (refShort_own X.2.length (by omega) _).mono ?_
                rintro e w6 ⟨v6, rfl, ho6, hb6⟩
                have HB6 : Hid (Below w.heap.size w w6) := HW5.out.trans (hb6.mono HW5.out.size)
                have HO6 : Hid (Own w6 w.heap.size v5 (P ++ sh s ++ sh m)) := HO5.out.below hb6
                have HR6 : Hid (Reads w6 v6 (sh X.2.length)) := reads_own ho6
                have hz6 := HB6.out.size
                clear hb6 ho6 HW5 HO5 c1
                go_wp2_with (at_builtin; refine wpList_appK rfl _ _ rfl w.heap.size _ _ (P ++ sh s ++ sh m) (sh X.2.length) _ rfl rfl rfl HO6.out HR6.out (by simp only [List.length_append]; omega) hz6 ?_)
                intro v7 w7 ho7 HB7 _
                have HO7 : Hid (Own w7 w.heap.size v7 (P ++ sh s ++ sh m ++ sh X.2.length)) := by
                  have h := ho7
                  (try simp only [List.append_assoc] at h)
                  (try simp only [List.append_assoc])
                  (try rw [List.drop_zero])
                  exact h
                have HW7 : Hid (Below w.heap.size w w7) := HB6.out.trans HB7.out
                clear ho7 HB7 HB6 HO6 HR6 hz6
                have c0 := (HW7.out.cell (p := ⟨bA, oA + k * 2, none⟩) hbA).trans q0
                have hsl := HSL.out
                have hz7 := HW7.out.size
                have hr7 := HRd.out.below HW7.out
                go_wp2_with (at_builtin; refine wpList_appK rfl _ _ rfl w.heap.size _ _ (P ++ sh s ++ sh m ++ sh X.2.length) (X.1.drop s) _ rfl rfl rfl HO7.out hr7 (by simp only [List.length_append]; omega) hz7 ?_)
                intro v8 w8 ho8 HB8 _
                have HO8 : Hid (Own w8 w.heap.size v8 (P ++ sh s ++ sh m ++ sh X.2.length ++ X.1.drop s)) := by
                  have h := ho8
                  (try simp only [List.append_assoc] at h)
                  (try simp only [List.append_assoc])
                  (try rw [List.drop_zero])
                  exact h
                have HW8 : Hid (Below w.heap.size w w8) := HW7.out.trans HB8.out
                clear ho8 HB8 HW7 HO7 c0 hsl hz7 hr7
                have c1 := (HW8.out.cell (p := ⟨bA, oA + k * 2 + 1, none⟩) hbA).trans q1
                have hz8 := HW8.out.size
                have hr8 := HRv.out.below HW8.out
                go_wp2_with (at_builtin; refine wpList_appK rfl _ _ rfl w.heap.size _ _ (P ++ sh s ++ sh m ++ sh X.2.length ++ X.1.drop s) X.2 _ rfl rfl rfl HO8.out hr8 (by simp only [List.length_append]; omega) hz8 ?_)
                intro v9 w9 ho9 HB9 _
                have HO9 : Hid (Own w9 w.heap.size v9 (wbF 0 [] (l.take (k + 1)))) := by
                  rw [HNx.out, HPB.out]
                  have h := ho9
                  (try simp only [List.append_assoc] at h)
                  (try simp only [List.append_assoc])
                  (try rw [List.drop_zero])
                  exact h
                have HW9 : Hid (Below w.heap.size w w9) := HW8.out.trans HB9.out
                clear ho9 HB9 HW8 HO8 c1 hz8 hr8
                go_wp2_with fail
                go_roundw
                case rel => exact ⟨k + 1, by omega, by go_num, HO9, HRI, HW9⟩
                case measure => simp [intOf]; omega
            · have hle : Op.bytesLess AH X.1 = false := by rw [rless_ltK]; exact decide_eq_false hlt2
              have HNR : Hid (¬ rise 0 [] (l.take (k + 1))) := fun h => hlt2 (HST.out.1 h).2
              go_wp2_with fail
              go_quiet (fail)
              go_wp2_with fail
              go_ret2
              have hmb : mbF l = 50 := by
                unfold mbF
                rw [if_neg (by omega), if_neg (not_not_intro HL2.out), if_pos (fun h => HNR.out (rise_take _ _ _ _ h))]
              refine ⟨_, by rw [hmb]; rfl, ?_, below_drewN HWo.out _⟩
              unfold wrB; rw [hmb, if_neg (by decide)]
              exact Own.nil _ _
        · go_wp2_with fail
          go_ret2
          have hkl : k = l.length := by omega
          rw [hkl, List.take_length] at HO HR
          have hmb : mbF l = 0 := mb_zero.2 ⟨by omega, HL2.out, HR.out⟩
          have hwr : wrB l = wb l := by unfold wrB; rw [if_pos hmb]
          refine ⟨_, by rw [hmb]; rfl, ?_, HWo.out⟩
          rw [hwr]
          exact HO.out
end Go.Proofs.Ytlpjdfgknmfmnaa

/- Blocks of some types stand. -/
namespace Go.Proofs.Ytlpjdfgknmfmnaa
open Go.RowKit

/-- Blocks of these types stand. -/
def KpT (S : TypeId → Prop) (A B : World) : Prop := ∀ (c : Nat) (cs : Array Value) (T : TypeId) (fr : Nat × Nat), S T → A.heap[c]? = some (.cells cs T fr) → B.heap[c]? = some (.cells cs T fr)
theorem KpT.of_below {S : TypeId → Prop} {A B : World} (h : Below A.heap.size A B) : KpT S A B := fun c _ _ _ _ hc => (h.block c (Array.getElem?_eq_some_iff.1 hc).1).trans hc
theorem KpT.trans {S : TypeId → Prop} {A B C : World} (h : KpT S A B) (k : KpT S B C) : KpT S A C := fun c cs T fr hs hc => k c cs T fr hs (h c cs T fr hs hc)
theorem KpT.grown {S : TypeId → Prop} {A B : World} {base : Nat} {e : TypeId} {size : Nat} {v : Value} {n : Nat} {xs : List Value} (h : A.ownsRow base e size v n xs) (hg : A.grownBy B v.ownBlock) (he : ¬ S e) : KpT S A B := by
  intro c cs T fr hs hc
  rw [hg.block c (Array.getElem?_eq_some_iff.1 hc).1 ?_]
  · exact hc
  · intro q
    rcases h.2 with ⟨rfl, _⟩ | ⟨g, cap, cur, rfl, _, hgb, _⟩
    · simp [Value.ownBlock] at q
    · obtain rfl : c = g := by simpa [Value.ownBlock] using q
      rw [hc] at hgb
      simp at hgb
      exact he (hgb.2.1 ▸ hs)
theorem own_kpT {S : TypeId → Prop} {A B : World} {base : Nat} {v : Value} {l : List UInt8} (h : Own A base v l) (hk : KpT S A B) (h8 : S 5) : Own B base v l := by
  refine ⟨h.1, ?_⟩
  rcases h.2 with q | ⟨g, cap, cur, hv, hg, hw, r⟩
  · exact .inl q
  · exact .inr ⟨g, cap, cur, hv, hg, hk _ _ _ _ h8 hw, r⟩
theorem row_kpT {S : TypeId → Prop} {A B : World} {base : Nat} {e : TypeId} {size : Nat} {v : Value} {n : Nat} {xs : List Value} (h : A.ownsRow base e size v n xs) (hk : KpT S A B) (he : S e) : B.ownsRow base e size v n xs := by
  refine ⟨h.1, ?_⟩
  rcases h.2 with q | ⟨g, cap, cur, hv, hg, hw, r⟩
  · exact .inl q
  · exact .inr ⟨g, cap, cur, hv, hg, hk _ _ _ _ he hw, r⟩
theorem KpT.set {A : World} {base : Nat} {e : TypeId} {n cap m g i : Nat} {u : Value} {xs : List Value} (h : A.ownsRow base e 1 (.slice (some ⟨g, 0, none⟩) n cap) m xs) : KpT (fun T => T ≠ e) A (A.setCell ⟨g, i, none⟩ u) := by
  intro c cs T fr hs hc
  by_cases q : c = g
  · subst q
    exfalso
    rcases h.2 with ⟨q, _⟩ | ⟨g', cap', cur, hv, _, hgb, _⟩
    · cases q
    · simp only [Value.slice.injEq, Option.some.injEq, Addr.mk.injEq, and_true] at hv
      obtain ⟨rfl, _⟩ := hv
      rw [hc] at hgb
      simp at hgb
      exact hs hgb.2.1
  · rw [Go.heap_setCell_other _ _ _ _ q]; exact hc
end Go.Proofs.Ytlpjdfgknmfmnaa

/- The reference's Eight: where its bytes lie; pairs of the reference in the making. -/
namespace Go.Proofs.Ytlpjdfgknmfmnaa
open Go.RowKit

/-- Bytes that a slice reads, in a block of bytes from lo on, that is not this one. -/
def RdX (W : World) (lo : Nat) (ob : Option Nat) (v : Value) (l : List UInt8) : Prop := Reads W v l ∧ ∃ b off n c cs, v = .slice (some ⟨b, off, none⟩) n c ∧ lo ≤ b ∧ W.heap[b]? = some (.cells cs 5) ∧ ob ≠ some b
theorem reads_same {A B : World} {b off n c : Nat} {l : List UInt8} (h : Reads A (.slice (some ⟨b, off, none⟩) n c) l) (hb : B.heap[b]? = A.heap[b]?) : Reads B (.slice (some ⟨b, off, none⟩) n c) l := by
  rcases h with h | ⟨b', off', cap, hv, h2, h3, h4, h5, h6⟩
  · exact .inl h
  · simp only [Value.slice.injEq, Option.some.injEq, Addr.mk.injEq, and_true] at hv
    obtain ⟨⟨rfl, rfl⟩, rfl, rfl⟩ := hv
    have hlt : b < B.heap.size := by
      rcases Nat.lt_or_ge b B.heap.size with q | q
      · exact q
      · rw [Array.getElem?_eq_none q] at hb
        rw [Array.getElem?_eq_getElem h5] at hb; cases hb
    refine .inr ⟨b, off, c, rfl, h2, h3, h4, hlt, fun j hj => ?_⟩
    have := h6 j hj
    unfold World.cell? at this ⊢
    simp only at this ⊢
    rw [hb]; exact this
theorem RdX.kpT {S : TypeId → Prop} {A B : World} {lo : Nat} {ob : Option Nat} {v : Value} {l : List UInt8} (h : RdX A lo ob v l) (hk : KpT S A B) (h8 : S 5) : RdX B lo ob v l := by
  obtain ⟨h1, b, off, n, c, cs, rfl, h2, h3, h4⟩ := h
  have := hk _ _ _ _ h8 h3
  exact ⟨reads_same h1 (by rw [this, h3]), b, off, n, c, cs, rfl, h2, this, h4⟩
theorem RdX.below {A B : World} {lo : Nat} {ob : Option Nat} {v : Value} {l : List UInt8} (h : RdX A lo ob v l) (hb : Below A.heap.size A B) : RdX B lo ob v l := h.kpT (S := fun _ => True) (KpT.of_below hb) trivial
/-- Where bytes of this very row grow. -/
theorem RdX.grown {A B : World} {lo base : Nat} {o v' : Value} {O : List UInt8} {v : Value} {l : List UInt8} (h : RdX A lo o.ownBlock v l) (_ho : Own A base o O) (hg : A.grownBy B o.ownBlock) (hw : ∀ k, v'.ownBlock = some k → o.ownBlock = some k ∨ A.heap.size ≤ k) : RdX B lo v'.ownBlock v l := by
  obtain ⟨h1, b, off, n, c, cs, rfl, h2, h3, h4⟩ := h
  have hlt := (Array.getElem?_eq_some_iff.1 h3).1
  have he := hg.block b hlt (fun e => h4 e.symm)
  refine ⟨reads_same h1 he, b, off, n, c, cs, rfl, h2, he.trans h3, fun e => ?_⟩
  rcases hw b e with q | q
  · exact h4 q
  · omega
/-- A row of the reference's pairs, whose keys are of before. -/
def RxR (w W : World) (base : Nat) (ob : Option Nat) (v : Value) (l : List Pr) : Prop := ∃ xs : List Pe, W.ownsRow base 64 2 v xs.length (xs.flatMap p2) ∧ xs.map Pe.p = l ∧ ∀ x ∈ xs, Reads w x.kv x.p.1 ∧ RdX W base ob x.vv x.p.2
theorem RxR.nil (w W : World) (base : Nat) (ob : Option Nat) : RxR w W base ob (.slice none 0 0) [] := ⟨[], World.ownsRow_nil _ _ _ _, rfl, fun _ h => by cases h⟩
theorem RxR.kpT {S : TypeId → Prop} {w A B : World} {base : Nat} {ob : Option Nat} {v : Value} {l : List Pr} (h : RxR w A base ob v l) (hk : KpT S A B) (h8 : S 5) (hp : S 64) : RxR w B base ob v l := by
  obtain ⟨xs, h1, h2, h3⟩ := h
  exact ⟨xs, row_kpT h1 hk hp, h2, fun x hx => ⟨(h3 x hx).1, (h3 x hx).2.kpT hk h8⟩⟩
theorem RxR.below {w A B : World} {base : Nat} {ob : Option Nat} {v : Value} {l : List Pr} (h : RxR w A base ob v l) (hb : Below A.heap.size A B) : RxR w B base ob v l := h.kpT (S := fun _ => True) (KpT.of_below hb) trivial trivial
theorem RxR.form {w W : World} {base : Nat} {ob : Option Nat} {v : Value} {l : List Pr} (h : RxR w W base ob v l) : ∃ a c, v = .slice a l.length c := by
  obtain ⟨xs, h1, h2, _⟩ := h
  have e : l.length = xs.length := by rw [← h2, List.length_map]
  rcases h1.2 with ⟨g1, g2⟩ | ⟨g, cap, cur, g1, _⟩
  · exact ⟨none, 0, by rw [g1, e, g2]⟩
  · exact ⟨_, cap, by rw [g1, e]⟩
theorem RxR.reads {w W : World} {base : Nat} {ob : Option Nat} {v : Value} {l : List Pr} (h : RxR w W base ob v l) (hb : Below w.heap.size w W) : PReads W v l := by
  obtain ⟨xs, h1, rfl, h3⟩ := h
  have hlt := World.ownsRow.lt h1
  rcases h1.2 with ⟨g1, g2⟩ | ⟨g, cap, cur, hv, hg, hw, hc, hm, _⟩
  · have : xs = [] := List.length_eq_zero_iff.1 g2
    subst this
    exact ⟨none, 0, by rw [g1]; rfl, Nat.le_refl _, Nat.zero_le _, .inl rfl⟩
  · rw [hv] at h1
    refine ⟨_, cap, by rw [hv, List.length_map], by rw [List.length_map]; exact hc, hm, .inr ⟨g, 0, rfl, (hlt g (by rw [hv]; rfl)).2, fun j hj => ?_⟩⟩
    rw [List.length_map] at hj
    have e0 := flat2 xs j 0 hj (by decide)
    have e1 := flat2 xs j 1 hj (by decide)
    obtain ⟨q1, q2, _⟩ := h3 xs[j] (List.getElem_mem hj)
    refine ⟨xs[j].kv, xs[j].vv, ?_, ?_, ?_, ?_⟩
    · rw [show 0 + j * 2 = 2 * j + 0 by omega, World.ownsRow.cellAt h1 _ (by omega), e0]; rfl
    · rw [show 0 + j * 2 + 1 = 2 * j + 1 by omega, World.ownsRow.cellAt h1 _ (by omega), e1]; rfl
    · rw [List.getElem_map]; exact q1.below hb
    · rw [List.getElem_map]; exact q2
theorem infoRp : (Try.prog.info? 64).map (fun i => (i.zero, i.size, i.bytes)) = some (some (.agg #[.slice none 0 0, .slice none 0 0]), 2, 48) := by kernel_rfl
/-- A pair more. -/
theorem RxR.app {w W : World} {base : Nat} {ob : Option Nat} {v : Value} {l : List Pr} (h : RxR w W base ob v l) (hz : base ≤ W.heap.size) {kv vv : Value} {k u : List UInt8} (hk : Reads w kv k) (hv : RdX W base ob vv u) {B : Nat}
    (hc : W.heap[B]? = some (.cells #[kv, vv] 64)) (hX : l.length ≤ 100000) (ty : TypeId) :
    ∃ v' w1, (Builtin.append_ #[62, 62] ty #[v, .slice (some ⟨B, 0, none⟩) 1 1]).run Try.prog W = .ok v' w1 ∧ (∃ a c, v' = .slice a (l.length + 1) c) ∧ RxR w w1 base ob v' (l ++ [(k, u)]) ∧ KpT (fun T => T ≠ 64) W w1 ∧ Below base W w1 := by
  obtain ⟨i0, hi, hz0, hz1, hz2⟩ := info_parts infoRp
  obtain ⟨xs, g1, g2, g3⟩ := h
  have hxl : xs.length = l.length := by rw [← g2, List.length_map]
  have hnews : ∀ j u, [kv, vv][j]? = some u → W.cell? ((⟨B, 0, none⟩ : Addr).add j) = some u := by
    intro j u hj
    match j, hj with
    | 0, hj => simp at hj; subst hj; simp [World.cell?, hc, Addr.add]
    | 1, hj => simp at hj; subst hj; simp [World.cell?, hc, Addr.add]
  obtain ⟨ak, ck, ek, _⟩ := hk.form
  obtain ⟨av, cv, ev, _⟩ := hv.1.form
  obtain ⟨v', w1, hrun, hown, hg, _⟩ := run_append_own (P := Try.prog) W base 62 ty 64 i0 _ 2 48 Try.underlying62 hi hz0 hz1 hz2 rfl (by decide) v xs.length (xs.flatMap p2) g1 ⟨B, 0, none⟩ 1 1 [kv, vv] rfl hnews (by rw [ek, ev]; simp [Value.oneCell']) (by unfold maxLen; omega) (by omega) hz
  have hkp : KpT (fun T => T ≠ 64) W w1 := KpT.grown g1 hg (fun h => h rfl)
  have hR : RxR w w1 base ob v' (l ++ [(k, u)]) := by
    refine ⟨xs ++ [⟨kv, vv, (k, u), undef, []⟩], by rw [List.length_append, List.flatMap_append]; exact hown, by rw [List.map_append, g2]; rfl, fun x hx => ?_⟩
    rcases List.mem_append.1 hx with hx | hx
    · exact ⟨(g3 x hx).1, (g3 x hx).2.kpT hkp (by decide)⟩
    · simp at hx; subst hx; exact ⟨hk, hv.kpT hkp (by decide)⟩
  refine ⟨v', w1, hrun, ?_, hR, hkp, (Below.refl _ _).grown hg hz (own_block g1)⟩
  obtain ⟨a, c, e⟩ := hR.form
  exact ⟨a, c, by rw [e, List.length_append]; rfl⟩
end Go.Proofs.Ytlpjdfgknmfmnaa

/- The reference's row of layer 10. -/
namespace Go.Proofs.Ytlpjdfgknmfmnaa
open Go.RowKit

/-- Bytes of one's own, some of them. -/
theorem RdX.of_own {W : World} {base : Nat} {v : Value} {l : List UInt8} (h : Own W base v l) (h0 : 0 < l.length) : RdX W base none v l := by
  refine ⟨h.reads, ?_⟩
  rcases h.2 with ⟨_, h2⟩ | ⟨g, cap, cur, hv, hg, hw, r⟩
  · omega
  · exact ⟨g, 0, l.length, cap, cur, hv, hg, hw, by simp⟩
set_option maxRecDepth 100000 in
set_option maxHeartbeats 4000000 in
theorem refRow10_any (v : Value) (L : List Et) (w : World) (h : TRd w v L) (hl : L.length ≤ 4096) (hr : ∀ x ∈ L, rightB x.2 = true) : Calls Try.prog 28 #[v] w fun e w' => ∃ u, e = .returned u ∧ Own w' w.heap.size u (wrB (rowP L)) ∧ Below w.heap.size w w' := by
  obtain ⟨a, cap, rfl, hc, hm⟩ : ∃ a cap, v = .slice a L.length cap ∧ L.length ≤ cap ∧ cap ≤ maxLen := by obtain ⟨a, cap, h1, h2, h3, _⟩ := h; exact ⟨a, cap, h1, h2, h3⟩
  unfold maxLen at hm
  have HR : Hid (TRd w (.slice a L.length cap) L) := h
  have HRi : Hid (∀ x ∈ L, rightB x.2 = true) := hr
  obtain ⟨N, HN⟩ : ∃ n, Hid (L.length = n) := ⟨_, rfl⟩
  rw [HN.out] at HR hc hl ⊢
  obtain ⟨V, HV⟩ := hid_ex (wrB (rowP L))
  rw [← HV.out]
  have HPl : Hid ((rowP L).length = N) := by unfold Hid rowP; rw [List.length_map, HN.out]
  clear h hr
  go_enter Try.func28, Try.ntmps28
  go_wp2_with fail
  go_loopw [3, 4] (fun o i wr => ∃ (j : Nat), i = .int .i64 (j : Int) ∧ j ≤ N ∧ Hid (RxR w wr w.heap.size none o ((rowP L).take j)) ∧ Hid (Below w.heap.size w wr)) (fun _ i _ => N - (intOf i).toNat)
  case atStart => exact ⟨0, rfl, by omega, RxR.nil _ _ _ _, Below.refl _ _⟩
  case round =>
    obtain ⟨j, rfl, hj, HX, HB⟩ := hrel
    by_cases hlt : j < N
    · have hlt' : (j : Int) < (N : Int) := by omega
      have hjl : j < L.length := by rw [HN.out]; exact hlt
      obtain ⟨x, Hx⟩ := hid_ex L[j]
      have HTk : Hid ((rowP L).take (j + 1) = (rowP L).take j ++ [(x.1, wrU x.2)]) := by
        unfold Hid
        rw [List.take_add_one, List.getElem?_eq_getElem (by rw [HPl.out]; exact hlt)]
        unfold rowP
        rw [List.getElem_map, Hx.out]; rfl
      have hrt : rightB x.2 = true := by rw [Hx.out]; exact HRi.out _ (List.getElem_mem hjl)
      have HRg : Hid (rightB x.2 = true) := hrt
      have HPj : Hid (((rowP L).take j).length = j) := by unfold Hid; rw [List.length_take, HPl.out]; omega
      obtain ⟨b, off, kv, rfl, hbw, hcs, hrk, hag⟩ := HR.out.at hjl Hx.out
      have HCS : Hid _ := hcs
      obtain ⟨k, A⟩ := x
      simp only at hrk hag HCS HTk HRg
      obtain ⟨ka, kc, rfl, _⟩ := hrk.form
      obtain ⟨KL, HKL⟩ : ∃ n, Hid (k.length = n) := ⟨_, rfl⟩
      rw [HKL.out] at hrk HCS
      have HRk : Hid (Reads w (.slice ka KL kc) k) := hrk
      have HBW : Hid (b < w.heap.size) := hbw
      have hcs' := fun i hi => (HB.out.cell (p := ⟨b, off + j * 7 + i, none⟩) hbw).trans (HCS.out i hi)
      have c0 := hcs' 0 (by decide)
      have c1 := hcs' 1 (by decide)
      have c2 := hcs' 2 (by decide)
      have c3 := hcs' 3 (by decide)
      have c4 := hcs' 4 (by decide)
      have c5 := hcs' 5 (by decide)
      have c6 := hcs' 6 (by decide)
      simp only [e7, List.getElem_cons_succ, List.getElem_cons_zero, Nat.add_zero] at c0 c1 c2 c3 c4 c5 c6
      have HAW : Hid (∀ w, Calls Try.prog 65 #[.agg #[.int .u64 A.c, .bool A.o, .int .i64 (hi A.s), .int .u64 (lo A.s), .int .i64 A.mn, .int .i64 A.mx]] w _) := fun w => refAW A hag w
      clear hcs hcs' hrk hag Hx hrt
      go_wp2_with fail
      refine (HAW.out _).mono ?_
      clear HAW
      rintro e w1 ⟨v1, rfl, ho1, hb1⟩
      have HB1 : Hid (Below w.heap.size w w1) := HB.out.trans (hb1.mono HB.out.size)
      have HX1 : Hid (RxR w w1 w.heap.size none _ _) := HX.out.below hb1
      have HO1 : Hid (RdX w1 w.heap.size none v1 (wrU A)) := RdX.of_own (ho1.mono HB.out.size) (by rw [wrU_len HRg.out]; decide)
      obtain ⟨a1, d1, rfl, _⟩ := ho1.form
      obtain ⟨ao, co, hov⟩ := HX.out.form
      rw [HPj.out] at hov
      subst hov
      have c0 := (HB1.out.cell (p := ⟨b, off + j * 7, none⟩) HBW.out).trans (HCS.out 0 (by decide))
      simp only [e7, List.getElem_cons_zero] at c0
      clear hb1 ho1 HB HX c1 c2 c3 c4 c5 c6
      have hz1 := HB1.out.size
      obtain ⟨W2, HW2⟩ := hid_ex (w1.alloc (.cells #[.slice ka KL kc, .slice a1 (wrU A).length d1] 64))
      have hb2 : Below w1.heap.size w1 W2 := by rw [HW2.out]; exact (Below.refl _ _).alloc (Nat.le_refl _) _
      have hxc : W2.heap[w1.heap.size]? = some (.cells #[.slice ka KL kc, .slice a1 (wrU A).length d1] 64) := by rw [HW2.out]; exact heap_alloc_new _ _
      have HB2 : Hid (Below w.heap.size w W2) := HB1.out.trans (hb2.mono hz1)
      obtain ⟨v3, W3, hr3, ⟨a3, c3, hv3⟩, hX3, _, hb3⟩ := (HX1.out.below hb2).app HB2.out.size HRk.out (HO1.out.below hb2) hxc (by rw [HPj.out]; omega) 62
      rw [HPj.out] at hv3
      subst hv3
      have HB3 : Hid (Below w.heap.size w W3) := HB2.out.trans hb3
      have HX3 : Hid (RxR w W3 w.heap.size none (.slice a3 (j + 1) c3) ((rowP L).take (j + 1))) := by rw [HTk.out]; exact hX3
      rw [HW2.out] at hr3
      clear hX3 hb3 hb2 hxc HW2 HB1 HX1 HO1 HB2 hz1
      go_wp2_with (at_builtin; refine wpList_app_runT rfl _ _ _ _ (by rfl) (by rfl) _ _ _ (by rfl) (by rfl) hr3 ?_; clear hr3)
      go_roundw
      case rel => exact ⟨j + 1, by go_num, by omega, HX3, HB3⟩
      case measure => simp [intOf]; omega
    · obtain rfl : j = N := by omega
      have hlt' : ¬ (j : Int) < (j : Int) := by omega
      have hX := HX.out
      rw [← HPl.out, List.take_length] at hX
      have hW := refWrite_any _ _ _ (hX.reads HB.out)
      rw [← HV.out] at hW
      have HW : Hid (Calls Try.prog 30 #[_] wr _) := hW
      obtain ⟨ao, co, hov⟩ := hX.form
      subst hov
      clear hX hW HX
      go_wp2_with fail
      refine HW.out.mono ?_
      clear HW
      rintro e w1 ⟨v1, rfl, ho1, hb1⟩
      have HB1 : Hid (Below w.heap.size w w1) := HB.out.trans (hb1.mono HB.out.size)
      have HO1 : Hid (Own w1 w.heap.size v1 V) := ho1.mono HB.out.size
      obtain ⟨a1, d1, rfl, _⟩ := ho1.form
      clear ho1 hb1
      go_wp2_with fail
      go_ret
      exact ⟨_, rfl, HO1.out, HB1.out⟩
end Go.Proofs.Ytlpjdfgknmfmnaa
