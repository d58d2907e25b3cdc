/- The contract of the reference's Write. -/
import Derived.Test.YtfgggfddehgigaaRK2
namespace Go.Proofs.Ytfgggfddehgigaa
open Go.RowKit

set_option maxRecDepth 100000 in
set_option maxHeartbeats 8000000 in
theorem refWrite_any (v : Value) (l : List Pr) (w : World) (hP : PReads w v l) :
    Calls Try.prog 9 #[v] w fun e w' => ∃ u, e = .returned (.tuple #[u, .int .i64 (mbF l)]) ∧ Own w' w.heap.size u (wrB l) ∧ Below w.heap.size w w' := by
  obtain ⟨a, cap, rfl, hcap, hm, h3⟩ := hP
  unfold maxLen at hm
  have H3 : Hid _ := h3
  clear h3
  go_enter Try.func9, Try.ntmps9
  by_cases g1 : (4096 : Int) < (l.length : Int)
  · go_wp2_with fail
    go_ret2
    have hmb : mbF l = 2 := by unfold mbF; rw [if_pos (by omega)]
    refine ⟨_, by rw [hmb]; rfl, ?_, Below.refl _ _⟩
    unfold wrB; rw [hmb, if_neg (by decide)]
    exact Own.nil _ _
  go_wp2_with fail
  go_loopw [4] (fun i wr => ∃ k : Nat, k ≤ l.length ∧ i = .int .i64 (k : Int) ∧ Hid (∀ x ∈ l.take k, okP x) ∧ Hid (w = wr)) (fun i _ => l.length - (intOf i).toNat)
  case atStart => exact ⟨0, by omega, rfl, fun x hx => by simp at hx, (rfl : w = w)⟩
  case round =>
    obtain ⟨k, hk, rfl, HO, HE⟩ := hrel
    obtain rfl := HE.out
    clear HE
    by_cases hlt : k < l.length
    · obtain ⟨bA, oA, rfl, hbA, hA⟩ := H3.out.resolve_left (fun h => by rw [h] at hlt; simp at hlt)
      obtain ⟨kv, vv, c0, c1, r0, r1⟩ := hA k hlt
      obtain ⟨X, HX⟩ := hid_ex l[k]
      rw [← HX.out] at r0 r1
      have HTk : Hid (l.take (k + 1) = l.take k ++ [X]) := by unfold Hid; rw [List.take_add_one, List.getElem?_eq_getElem hlt, HX.out]; rfl
      have HXm : Hid (X ∈ l) := by rw [HX.out]; exact List.getElem_mem hlt
      obtain ⟨ak, ck, rfl, hmk⟩ := r0.form
      obtain ⟨av, cv, rfl, hmv⟩ := r1.form
      unfold maxLen at hmk hmv
      clear hA r0 r1 HX
      by_cases e1 : (4096 : Int) < (X.1.length : Int)
      · go_wp2_with fail
        go_ret2
        have hmb : mbF l = 2 := by
          unfold mbF
          rw [if_neg (by omega), if_pos (fun h => by have := (h X HXm.out).1; omega)]
        refine ⟨_, by rw [hmb]; rfl, ?_, Below.refl _ _⟩
        unfold wrB; rw [hmb, if_neg (by decide)]
        exact Own.nil _ _
      by_cases e2 : (4096 : Int) < (X.2.length : Int)
      · go_wp2_with fail
        go_ret2
        have hmb : mbF l = 2 := by
          unfold mbF
          rw [if_neg (by omega), if_pos (fun h => by have := (h X HXm.out).2; omega)]
        refine ⟨_, by rw [hmb]; rfl, ?_, Below.refl _ _⟩
        unfold wrB; rw [hmb, if_neg (by decide)]
        exact Own.nil _ _
      go_wp2_with fail
      go_roundw
      case rel =>
        refine ⟨k + 1, by omega, by go_num, ?_, by first | exact trivial | exact (rfl : w = w)⟩
        rw [HTk.out]
        intro y hy
        rcases List.mem_append.1 hy with hy | hy
        · exact HO.out y hy
        · simp at hy; subst hy; exact ⟨by omega, by omega⟩
      case measure => simp [intOf]; omega
    · have hkl : k = l.length := by omega
      rw [hkl, List.take_length] at HO
      have HL2 : Hid (∀ x ∈ l, okP x) := HO
      clear HO hkl hk
      go_wp2_with fail
      go_loopw [5, 6] (fun o i wr => ∃ k : Nat, k ≤ l.length ∧ i = .int .i64 (k : Int) ∧ Hid (Own wr w.heap.size o (wbF 0 [] (l.take k))) ∧ Hid (rise 0 [] (l.take k)) ∧ Hid (Below w.heap.size w wr)) (fun _ i _ => l.length - (intOf i).toNat)
      case atStart => exact ⟨0, by omega, rfl, Own.nil _ _, by simp [Hid, rise], Below.refl _ _⟩
      case round =>
        rename World => wo
        obtain ⟨k, hk, rfl, HO, HR, HWo⟩ := hrel
        by_cases hlt : k < l.length
        · obtain ⟨bA, oA, rfl, hbA, hA⟩ := H3.out.resolve_left (fun h => by rw [h] at hlt; simp at hlt)
          obtain ⟨kv, vv, q0, q1, r0, r1⟩ := hA k hlt
          have HAA : Hid _ := hA
          clear hA
          obtain ⟨X, HX⟩ := hid_ex l[k]
          rw [← HX.out] at r0 r1
          have HTk : Hid (l.take (k + 1) = l.take k ++ [X]) := by unfold Hid; rw [List.take_add_one, List.getElem?_eq_getElem hlt, HX.out]; rfl
          have hXo : okP X := by rw [HX.out]; exact HL2.out _ (List.getElem_mem hlt)
          obtain ⟨hX1, hX2⟩ := hXo
          have c0 := (HWo.out.cell (p := ⟨bA, oA + k * 2, none⟩) hbA).trans q0
          have HRk : Hid (Reads w kv X.1) := r0
          have HRv : Hid (Reads w vv X.2) := r1
          obtain ⟨ak, ck, rfl, hmk⟩ := r0.form
          obtain ⟨av, cv, rfl, hmv⟩ := r1.form
          unfold maxLen at hmk hmv
          clear r0 r1
          obtain ⟨AH, HAH⟩ := hid_ex (lastK [] (l.take k))
          obtain ⟨P, HPp⟩ := hid_ex (wbF 0 [] (l.take k))
          have hPl : P.length ≤ 4096 * 8198 := by
            rw [HPp.out]
            have := wbF_len (l.take k) 0 [] (fun x hx => HL2.out x (List.mem_of_mem_take hx))
            rw [List.length_take] at this
            have h2 : min k l.length * 8198 ≤ 4096 * 8198 := Nat.mul_le_mul_right _ (by omega)
            omega
          have HNx : Hid (wbF 0 [] (l.take (k + 1)) = P ++ pb k AH X) := by
            unfold Hid
            rw [HTk.out, wbF_snoc, ← HPp.out, ← HAH.out, List.length_take, Nat.zero_add, Nat.min_eq_left hk]
          rw [← HPp.out] at HO
          clear HPp
          by_cases hk0 : k = 0
          · have HRI : Hid (rise 0 [] (l.take (k + 1))) := by rw [hk0]; exact rise_one l
            obtain ⟨s, HS⟩ := hid_ex (svd k AH X.1)
            have hs0 : s = 0 := by rw [HS.out]; exact svd_zero (by omega)
            subst hk0
            simp only [Nat.zero_mul, Nat.add_zero] at q0 q1 c0
            go_wp2_with fail
            go_quiet (fail)
            obtain ⟨w1, HW1⟩ := hid_ex (wo.drewN nq)
            rw [← HW1.out]
            have HB1 : Hid (Below w.heap.size w w1) := by rw [HW1.out]; exact below_drewN HWo.out _
            have HO1 : Hid (Own w1 w.heap.size u5 P) := by rw [HW1.out]; exact HO.out.below (below_drewN (Below.refl _ _) _)
            clear HW1 HWo HO
            have HPB : Hid (pb 0 AH X = sh 0 ++ sh X.1.length ++ sh X.2.length ++ X.1.drop 0 ++ X.2) := by
              unfold Hid pb
              rw [← HS.out, hs0, Nat.sub_zero]
              simp only [List.append_assoc]
            clear hs0
            have l1 := sh2 (n := 0) (by omega)
            have l2 := sh2 (n := X.1.length) (by omega)
            have l3 := sh2 (n := X.2.length) (by omega)
            obtain ⟨ad, cd, hsl, hrd⟩ := sl_from (c := 0) HRk.out (by omega)
            have HSL : Hid (∀ w', (Instr.slice 23 (.slice ak X.1.length ck) (some (.int .i64 (0 : Int))) none none).run Try.prog w' = .ok (.slice ad (X.1.length - 0) cd) w') := hsl
            have HRd : Hid (Reads w (.slice ad (X.1.length - 0) cd) (X.1.drop 0)) := hrd
            clear hsl hrd
            have hdl : (X.1.drop 0).length ≤ 4096 := by simp; omega
            go_wp2_with fail
            refine (refShort_own 0 (by omega) _).mono ?_
            rintro e w2 ⟨v2, rfl, ho2, hb2⟩
            have HB2 : Hid (Below w.heap.size w w2) := HB1.out.trans (hb2.mono HB1.out.size)
            have HO2 : Hid (Own w2 w.heap.size u5 P) := HO1.out.below hb2
            have HR2 : Hid (Reads w2 v2 (sh 0)) := reads_own ho2
            have hz2 := HB2.out.size
            clear hb2 ho2 HB1 HO1
            go_wp2_with (at_builtin; refine wpList_appK rfl _ _ rfl w.heap.size _ _ P (sh 0) _ rfl rfl rfl HO2.out HR2.out (by omega) hz2 ?_)
            intro v3 w3 ho3 HB3 _
            have HO3 : Hid (Own w3 w.heap.size v3 (P ++ sh 0)) := ho3
            have HW3 : Hid (Below w.heap.size w w3) := HB2.out.trans HB3.out
            clear ho3 HB3 HB2 HO2 HR2 hz2
            have c0 := (HW3.out.cell (p := ⟨bA, oA, none⟩) hbA).trans q0
            go_wp2_with fail
            refine (refShort_own X.1.length (by omega) _).mono ?_
            rintro e w4 ⟨v4, rfl, ho4, hb4⟩
            have HB4 : Hid (Below w.heap.size w w4) := HW3.out.trans (hb4.mono HW3.out.size)
            have HO4 : Hid (Own w4 w.heap.size v3 (P ++ sh 0)) := HO3.out.below hb4
            have HR4 : Hid (Reads w4 v4 (sh X.1.length)) := reads_own ho4
            have hz4 := HB4.out.size
            clear hb4 ho4 HW3 HO3 c0
            go_wp2_with (at_builtin; refine wpList_appK rfl _ _ rfl w.heap.size _ _ (P ++ sh 0) (sh X.1.length) _ rfl rfl rfl HO4.out HR4.out (by simp only [List.length_append]; omega) hz4 ?_)
            intro v5 w5 ho5 HB5 _
            have HO5 : Hid (Own w5 w.heap.size v5 (P ++ sh 0 ++ sh X.1.length)) := by
              have h := ho5
              (try simp only [List.append_assoc] at h)
              (try simp only [List.append_assoc])
              (try rw [List.drop_zero])
              exact h
            have HW5 : Hid (Below w.heap.size w w5) := HB4.out.trans HB5.out
            clear ho5 HB5 HB4 HO4 HR4 hz4
            have c1 := (HW5.out.cell (p := ⟨bA, oA + 1, none⟩) hbA).trans q1
            go_wp2_with fail
            refine (refShort_own X.2.length (by omega) _).mono ?_
            rintro e w6 ⟨v6, rfl, ho6, hb6⟩
            have HB6 : Hid (Below w.heap.size w w6) := HW5.out.trans (hb6.mono HW5.out.size)
            have HO6 : Hid (Own w6 w.heap.size v5 (P ++ sh 0 ++ sh X.1.length)) := HO5.out.below hb6
            have HR6 : Hid (Reads w6 v6 (sh X.2.length)) := reads_own ho6
            have hz6 := HB6.out.size
            clear hb6 ho6 HW5 HO5 c1
            go_wp2_with (at_builtin; refine wpList_appK rfl _ _ rfl w.heap.size _ _ (P ++ sh 0 ++ sh X.1.length) (sh X.2.length) _ rfl rfl rfl HO6.out HR6.out (by simp only [List.length_append]; omega) hz6 ?_)
            intro v7 w7 ho7 HB7 _
            have HO7 : Hid (Own w7 w.heap.size v7 (P ++ sh 0 ++ sh X.1.length ++ sh X.2.length)) := by
              have h := ho7
              (try simp only [List.append_assoc] at h)
              (try simp only [List.append_assoc])
              (try rw [List.drop_zero])
              exact h
            have HW7 : Hid (Below w.heap.size w w7) := HB6.out.trans HB7.out
            clear ho7 HB7 HB6 HO6 HR6 hz6
            have c0 := (HW7.out.cell (p := ⟨bA, oA, none⟩) hbA).trans q0
            have hsl := HSL.out
            have hz7 := HW7.out.size
            have hr7 := HRd.out.below HW7.out
            go_wp2_with (at_builtin; refine wpList_appK rfl _ _ rfl w.heap.size _ _ (P ++ sh 0 ++ sh X.1.length ++ sh X.2.length) (X.1.drop 0) _ rfl rfl rfl HO7.out hr7 (by simp only [List.length_append]; omega) hz7 ?_)
            intro v8 w8 ho8 HB8 _
            have HO8 : Hid (Own w8 w.heap.size v8 (P ++ sh 0 ++ sh X.1.length ++ sh X.2.length ++ X.1.drop 0)) := by
              have h := ho8
              (try simp only [List.append_assoc] at h)
              (try simp only [List.append_assoc])
              (try rw [List.drop_zero])
              exact h
            have HW8 : Hid (Below w.heap.size w w8) := HW7.out.trans HB8.out
            clear ho8 HB8 HW7 HO7 c0 hsl hz7 hr7
            have c1 := (HW8.out.cell (p := ⟨bA, oA + 1, none⟩) hbA).trans q1
            have hz8 := HW8.out.size
            have hr8 := HRv.out.below HW8.out
            go_wp2_with (at_builtin; refine wpList_appK rfl _ _ rfl w.heap.size _ _ (P ++ sh 0 ++ sh X.1.length ++ sh X.2.length ++ X.1.drop 0) X.2 _ rfl rfl rfl HO8.out hr8 (by simp only [List.length_append]; omega) hz8 ?_)
            intro v9 w9 ho9 HB9 _
            have HO9 : Hid (Own w9 w.heap.size v9 (wbF 0 [] (l.take (0 + 1)))) := by
              rw [HNx.out, HPB.out]
              have h := ho9
              (try simp only [List.append_assoc] at h)
              (try simp only [List.append_assoc])
              (try rw [List.drop_zero])
              exact h
            have HW9 : Hid (Below w.heap.size w w9) := HW8.out.trans HB9.out
            clear ho9 HB9 HW8 HO8 c1 hz8 hr8
            go_wp2_with fail
            go_roundw
            case rel => exact ⟨0 + 1, by omega, by go_num, HO9, HRI, HW9⟩
            case measure => simp [intOf]; omega
          · have hk1 : 0 < k := by omega
            clear hk0
            have hkp : k - 1 < l.length := by omega
            obtain ⟨ky, vy, y0, -, ry, -⟩ := HAA.out (k - 1) hkp
            have HST : Hid (rise 0 [] (l.take (k + 1)) ↔ rise 0 [] (l.take k) ∧ ltK (l[k - 1]'hkp).1 l[k].1) := rise_step hk1 hlt
            have HAH2 : Hid (AH = (l[k - 1]'hkp).1) := by
              unfold Hid
              have e : l.take k = l.take (k - 1) ++ [l[k - 1]'hkp] := by
                have := List.take_add_one (l := l) (i := k - 1)
                rw [show k - 1 + 1 = k by omega, List.getElem?_eq_getElem hkp] at this
                exact this
              rw [HAH.out, e]
              exact lastK_snoc _ _ _
            rw [← HAH2.out, ← HX.out] at HST
            rw [← HAH2.out] at ry
            have HRy : Hid (Reads w ky AH) := ry
            obtain ⟨ay, cy, rfl, hmy⟩ := ry.form
            clear ry
            obtain ⟨k', HK'⟩ := hid_ex (k - 1)
            rw [← HK'.out] at y0
            have hkp2 : k' < l.length := by rw [HK'.out]; exact hkp
            have j1 : (k : Int) - 1 = (k' : Int) := by rw [HK'.out]; omega
            have c9 := (HWo.out.cell (p := ⟨bA, oA + k' * 2, none⟩) hbA).trans y0
            have hq1 : ∀ n, (convert 23 9 (.slice ay AH.length cy)).run Try.prog (wo.drewN n) = .ok (.string ⟨AH.toArray⟩) (wo.drewN n) := fun n => reads_text (HRy.out.below (below_drewN HWo.out n))
            have hq2 : ∀ n, (convert 23 9 (.slice ak X.1.length ck)).run Try.prog (wo.drewN n) = .ok (.string ⟨X.1.toArray⟩) (wo.drewN n) := fun n => reads_text (HRk.out.below (below_drewN HWo.out n))
            by_cases hlt2 : ltK AH X.1
            · have hle : Op.bytesLess AH X.1 = true := by rw [rless_ltK]; exact decide_eq_true hlt2
              have HRI : Hid (rise 0 [] (l.take (k + 1))) := HST.out.2 ⟨HR.out, hlt2⟩
              obtain ⟨s, HS⟩ := hid_ex (svd k AH X.1)
              by_cases i8 : (k : Int) % 8 = 0
              · have hs0 : s = 0 := by rw [HS.out]; exact svd_zero (by omega)
                go_wp2_with fail
                go_quiet (fail)
                clear hq1 hq2 c9 c0
                obtain ⟨w1, HW1⟩ := hid_ex (wo.drewN nq)
                rw [← HW1.out]
                have HB1 : Hid (Below w.heap.size w w1) := by rw [HW1.out]; exact below_drewN HWo.out _
                have HO1 : Hid (Own w1 w.heap.size u5 P) := by rw [HW1.out]; exact HO.out.below (below_drewN (Below.refl _ _) _)
                clear HW1 HWo HO
                have HPB : Hid (pb k AH X = sh 0 ++ sh X.1.length ++ sh X.2.length ++ X.1.drop 0 ++ X.2) := by
                  unfold Hid pb
                  rw [← HS.out, hs0, Nat.sub_zero]
                  simp only [List.append_assoc]
                clear hs0
                have l1 := sh2 (n := 0) (by omega)
                have l2 := sh2 (n := X.1.length) (by omega)
                have l3 := sh2 (n := X.2.length) (by omega)
                obtain ⟨ad, cd, hsl, hrd⟩ := sl_from (c := 0) HRk.out (by omega)
                have HSL : Hid (∀ w', (Instr.slice 23 (.slice ak X.1.length ck) (some (.int .i64 (0 : Int))) none none).run Try.prog w' = .ok (.slice ad (X.1.length - 0) cd) w') := hsl
                have HRd : Hid (Reads w (.slice ad (X.1.length - 0) cd) (X.1.drop 0)) := hrd
                clear hsl hrd
                have hdl : (X.1.drop 0).length ≤ 4096 := by simp; omega
                go_wp2_with fail
                refine (refShort_own 0 (by omega) _).mono ?_
                rintro e w2 ⟨v2, rfl, ho2, hb2⟩
                have HB2 : Hid (Below w.heap.size w w2) := HB1.out.trans (hb2.mono HB1.out.size)
                have HO2 : Hid (Own w2 w.heap.size u5 P) := HO1.out.below hb2
                have HR2 : Hid (Reads w2 v2 (sh 0)) := reads_own ho2
                have hz2 := HB2.out.size
                clear hb2 ho2 HB1 HO1
                go_wp2_with (at_builtin; refine wpList_appK rfl _ _ rfl w.heap.size _ _ P (sh 0) _ rfl rfl rfl HO2.out HR2.out (by omega) hz2 ?_)
                intro v3 w3 ho3 HB3 _
                have HO3 : Hid (Own w3 w.heap.size v3 (P ++ sh 0)) := ho3
                have HW3 : Hid (Below w.heap.size w w3) := HB2.out.trans HB3.out
                clear ho3 HB3 HB2 HO2 HR2 hz2
                have c0 := (HW3.out.cell (p := ⟨bA, oA + k * 2, none⟩) hbA).trans q0
                go_wp2_with fail
                refine (refShort_own X.1.length (by omega) _).mono ?_
                rintro e w4 ⟨v4, rfl, ho4, hb4⟩
                have HB4 : Hid (Below w.heap.size w w4) := HW3.out.trans (hb4.mono HW3.out.size)
                have HO4 : Hid (Own w4 w.heap.size v3 (P ++ sh 0)) := HO3.out.below hb4
                have HR4 : Hid (Reads w4 v4 (sh X.1.length)) := reads_own ho4
                have hz4 := HB4.out.size
                clear hb4 ho4 HW3 HO3 c0
                go_wp2_with (at_builtin; refine wpList_appK rfl _ _ rfl w.heap.size _ _ (P ++ sh 0) (sh X.1.length) _ rfl rfl rfl HO4.out HR4.out (by simp only [List.length_append]; omega) hz4 ?_)
                intro v5 w5 ho5 HB5 _
                have HO5 : Hid (Own w5 w.heap.size v5 (P ++ sh 0 ++ sh X.1.length)) := by
                  have h := ho5
                  (try simp only [List.append_assoc] at h)
                  (try simp only [List.append_assoc])
                  (try rw [List.drop_zero])
                  exact h
                have HW5 : Hid (Below w.heap.size w w5) := HB4.out.trans HB5.out
                clear ho5 HB5 HB4 HO4 HR4 hz4
                have c1 := (HW5.out.cell (p := ⟨bA, oA + k * 2 + 1, none⟩) hbA).trans q1
                go_wp2_with fail
                refine (refShort_own X.2.length (by omega) _).mono ?_
                rintro e w6 ⟨v6, rfl, ho6, hb6⟩
                have HB6 : Hid (Below w.heap.size w w6) := HW5.out.trans (hb6.mono HW5.out.size)
                have HO6 : Hid (Own w6 w.heap.size v5 (P ++ sh 0 ++ sh X.1.length)) := HO5.out.below hb6
                have HR6 : Hid (Reads w6 v6 (sh X.2.length)) := reads_own ho6
                have hz6 := HB6.out.size
                clear hb6 ho6 HW5 HO5 c1
                go_wp2_with (at_builtin; refine wpList_appK rfl _ _ rfl w.heap.size _ _ (P ++ sh 0 ++ sh X.1.length) (sh X.2.length) _ rfl rfl rfl HO6.out HR6.out (by simp only [List.length_append]; omega) hz6 ?_)
                intro v7 w7 ho7 HB7 _
                have HO7 : Hid (Own w7 w.heap.size v7 (P ++ sh 0 ++ sh X.1.length ++ sh X.2.length)) := by
                  have h := ho7
                  (try simp only [List.append_assoc] at h)
                  (try simp only [List.append_assoc])
                  (try rw [List.drop_zero])
                  exact h
                have HW7 : Hid (Below w.heap.size w w7) := HB6.out.trans HB7.out
                clear ho7 HB7 HB6 HO6 HR6 hz6
                have c0 := (HW7.out.cell (p := ⟨bA, oA + k * 2, none⟩) hbA).trans q0
                have hsl := HSL.out
                have hz7 := HW7.out.size
                have hr7 := HRd.out.below HW7.out
                go_wp2_with (at_builtin; refine wpList_appK rfl _ _ rfl w.heap.size _ _ (P ++ sh 0 ++ sh X.1.length ++ sh X.2.length) (X.1.drop 0) _ rfl rfl rfl HO7.out hr7 (by simp only [List.length_append]; omega) hz7 ?_)
                intro v8 w8 ho8 HB8 _
                have HO8 : Hid (Own w8 w.heap.size v8 (P ++ sh 0 ++ sh X.1.length ++ sh X.2.length ++ X.1.drop 0)) := by
                  have h := ho8
                  (try simp only [List.append_assoc] at h)
                  (try simp only [List.append_assoc])
                  (try rw [List.drop_zero])
                  exact h
                have HW8 : Hid (Below w.heap.size w w8) := HW7.out.trans HB8.out
                clear ho8 HB8 HW7 HO7 c0 hsl hz7 hr7
                have c1 := (HW8.out.cell (p := ⟨bA, oA + k * 2 + 1, none⟩) hbA).trans q1
                have hz8 := HW8.out.size
                have hr8 := HRv.out.below HW8.out
                go_wp2_with (at_builtin; refine wpList_appK rfl _ _ rfl w.heap.size _ _ (P ++ sh 0 ++ sh X.1.length ++ sh X.2.length ++ X.1.drop 0) X.2 _ rfl rfl rfl HO8.out hr8 (by simp only [List.length_append]; omega) hz8 ?_)
                intro v9 w9 ho9 HB9 _
                have HO9 : Hid (Own w9 w.heap.size v9 (wbF 0 [] (l.take (k + 1)))) := by
                  rw [HNx.out, HPB.out]
                  have h := ho9
                  (try simp only [List.append_assoc] at h)
                  (try simp only [List.append_assoc])
                  (try rw [List.drop_zero])
                  exact h
                have HW9 : Hid (Below w.heap.size w w9) := HW8.out.trans HB9.out
                clear ho9 HB9 HW8 HO8 c1 hz8 hr8
                go_wp2_with fail
                go_roundw
                case rel => exact ⟨k + 1, by omega, by go_num, HO9, HRI, HW9⟩
                case measure => simp [intOf]; omega
              · have HS0 : Hid (s = com AH X.1) := by rw [HS.out]; exact svd_com (by omega)
                have hs1 : s ≤ X.1.length := by rw [HS.out]; exact (svd_le _ _ _).2
                go_wp2_with fail
                go_quiet (fail)
                clear hq1 hq2
                obtain ⟨wp, HWP⟩ := hid_ex (wo.drewN nq)
                rw [← HWP.out]
                have HBp : Hid (Below w.heap.size w wp) := by rw [HWP.out]; exact below_drewN HWo.out _
                have HOp : Hid (Own wp w.heap.size u5 P) := by rw [HWP.out]; exact HO.out.below (below_drewN (Below.refl _ _) _)
                have c0' := (HBp.out.cell (p := ⟨bA, oA + k * 2, none⟩) hbA).trans q0
                have c9' := (HBp.out.cell (p := ⟨bA, oA + k' * 2, none⟩) hbA).trans y0
                have HCL : ∀ n, Calls Try.prog 12 #[.slice ay AH.length cy, .slice ak X.1.length ck] (wp.drewN n) (fun e w' => e = .returned (.int .i64 (s : Int)) ∧ ∃ m, w' = wp.drewN m) := by
                  intro n
                  refine (refCommon_any _ AH X.1 _ _ _ rfl (HRy.out.below (below_drewN HBp.out _)) (HRk.out.below (below_drewN HBp.out _))).mono ?_
                  intro e w' h
                  exact ⟨by rw [h.1, ← HS0.out], by obtain ⟨m, hm⟩ := h.2; exact ⟨_, hm.trans (World.drewN_drewN _ _ _)⟩⟩
                clear HWP c0 c9 HWo HO
                have HWo : Hid (Below w.heap.size w wp) := HBp
                have HO : Hid (Own wp w.heap.size u5 P) := HOp
                clear HBp HOp
                go_wp2_with fail
                go_quiet (exact HCL _)
                clear c0' c9' HCL
                obtain ⟨w1, HW1⟩ := hid_ex (wp.drewN nq)
                rw [← HW1.out]
                have HB1 : Hid (Below w.heap.size w w1) := by rw [HW1.out]; exact below_drewN HWo.out _
                have HO1 : Hid (Own w1 w.heap.size u5 P) := by rw [HW1.out]; exact HO.out.below (below_drewN (Below.refl _ _) _)
                clear HW1 HWo HO
                obtain ⟨m, hmm⟩ : ∃ m : Nat, (X.1.length : Int) - (s : Int) = (m : Int) := ⟨X.1.length - s, by omega⟩
                have HPB : Hid (pb k AH X = sh s ++ sh m ++ sh X.2.length ++ X.1.drop s ++ X.2) := by
                  unfold Hid pb
                  rw [← HS.out, show X.1.length - s = m by omega]
                  simp only [List.append_assoc]
                have l1 := sh2 (n := s) (by omega)
                have l2 := sh2 (n := m) (by omega)
                have l3 := sh2 (n := X.2.length) (by omega)
                obtain ⟨ad, cd, hsl, hrd⟩ := sl_from (c := s) HRk.out (by omega)
                have HSL : Hid (∀ w', (Instr.slice 23 (.slice ak X.1.length ck) (some (.int .i64 (s : Int))) none none).run Try.prog w' = .ok (.slice ad (X.1.length - s) cd) w') := hsl
                have HRd : Hid (Reads w (.slice ad (X.1.length - s) cd) (X.1.drop s)) := hrd
                clear hsl hrd
                have hdl : (X.1.drop s).length ≤ 4096 := by simp; omega
                go_wp2_with fail
                refine (refShort_own s (by omega) _).mono ?_
                rintro e w2 ⟨v2, rfl, ho2, hb2⟩
                have HB2 : Hid (Below w.heap.size w w2) := HB1.out.trans (hb2.mono HB1.out.size)
                have HO2 : Hid (Own w2 w.heap.size u5 P) := HO1.out.below hb2
                have HR2 : Hid (Reads w2 v2 (sh s)) := reads_own ho2
                have hz2 := HB2.out.size
                clear hb2 ho2 HB1 HO1
                go_wp2_with (at_builtin; refine wpList_appK rfl _ _ rfl w.heap.size _ _ P (sh s) _ rfl rfl rfl HO2.out HR2.out (by omega) hz2 ?_)
                intro v3 w3 ho3 HB3 _
                have HO3 : Hid (Own w3 w.heap.size v3 (P ++ sh s)) := ho3
                have HW3 : Hid (Below w.heap.size w w3) := HB2.out.trans HB3.out
                clear ho3 HB3 HB2 HO2 HR2 hz2
                have c0 := (HW3.out.cell (p := ⟨bA, oA + k * 2, none⟩) hbA).trans q0
                go_wp2_with fail
                refine (refShort_own m (by omega) _).mono ?_
                rintro e w4 ⟨v4, rfl, ho4, hb4⟩
                have HB4 : Hid (Below w.heap.size w w4) := HW3.out.trans (hb4.mono HW3.out.size)
                have HO4 : Hid (Own w4 w.heap.size v3 (P ++ sh s)) := HO3.out.below hb4
                have HR4 : Hid (Reads w4 v4 (sh m)) := reads_own ho4
                have hz4 := HB4.out.size
                clear hb4 ho4 HW3 HO3 c0
                go_wp2_with (at_builtin; refine wpList_appK rfl _ _ rfl w.heap.size _ _ (P ++ sh s) (sh m) _ rfl rfl rfl HO4.out HR4.out (by simp only [List.length_append]; omega) hz4 ?_)
                intro v5 w5 ho5 HB5 _
                have HO5 : Hid (Own w5 w.heap.size v5 (P ++ sh s ++ sh m)) := by
                  have h := ho5
                  (try simp only [List.append_assoc] at h)
                  (try simp only [List.append_assoc])
                  (try rw [List.drop_zero])
                  exact h
                have HW5 : Hid (Below w.heap.size w w5) := HB4.out.trans HB5.out
                clear ho5 HB5 HB4 HO4 HR4 hz4
                have c1 := (HW5.out.cell (p := ⟨bA, oA + k * 2 + 1, none⟩) hbA).trans q1
                go_wp2_with fail
                refine (refShort_own X.2.length (by omega) _).mono ?_
                rintro e w6 ⟨v6, rfl, ho6, hb6⟩
                have HB6 : Hid (Below w.heap.size w w6) := HW5.out.trans (hb6.mono HW5.out.size)
                have HO6 : Hid (Own w6 w.heap.size v5 (P ++ sh s ++ sh m)) := HO5.out.below hb6
                have HR6 : Hid (Reads w6 v6 (sh X.2.length)) := reads_own ho6
                have hz6 := HB6.out.size
                clear hb6 ho6 HW5 HO5 c1
                go_wp2_with (at_builtin; refine wpList_appK rfl _ _ rfl w.heap.size _ _ (P ++ sh s ++ sh m) (sh X.2.length) _ rfl rfl rfl HO6.out HR6.out (by simp only [List.length_append]; omega) hz6 ?_)
                intro v7 w7 ho7 HB7 _
                have HO7 : Hid (Own w7 w.heap.size v7 (P ++ sh s ++ sh m ++ sh X.2.length)) := by
                  have h := ho7
                  (try simp only [List.append_assoc] at h)
                  (try simp only [List.append_assoc])
                  (try rw [List.drop_zero])
                  exact h
                have HW7 : Hid (Below w.heap.size w w7) := HB6.out.trans HB7.out
                clear ho7 HB7 HB6 HO6 HR6 hz6
                have c0 := (HW7.out.cell (p := ⟨bA, oA + k * 2, none⟩) hbA).trans q0
                have hsl := HSL.out
                have hz7 := HW7.out.size
                have hr7 := HRd.out.below HW7.out
                go_wp2_with (at_builtin; refine wpList_appK rfl _ _ rfl w.heap.size _ _ (P ++ sh s ++ sh m ++ sh X.2.length) (X.1.drop s) _ rfl rfl rfl HO7.out hr7 (by simp only [List.length_append]; omega) hz7 ?_)
                intro v8 w8 ho8 HB8 _
                have HO8 : Hid (Own w8 w.heap.size v8 (P ++ sh s ++ sh m ++ sh X.2.length ++ X.1.drop s)) := by
                  have h := ho8
                  (try simp only [List.append_assoc] at h)
                  (try simp only [List.append_assoc])
                  (try rw [List.drop_zero])
                  exact h
                have HW8 : Hid (Below w.heap.size w w8) := HW7.out.trans HB8.out
                clear ho8 HB8 HW7 HO7 c0 hsl hz7 hr7
                have c1 := (HW8.out.cell (p := ⟨bA, oA + k * 2 + 1, none⟩) hbA).trans q1
                have hz8 := HW8.out.size
                have hr8 := HRv.out.below HW8.out
                go_wp2_with (at_builtin; refine wpList_appK rfl _ _ rfl w.heap.size _ _ (P ++ sh s ++ sh m ++ sh X.2.length ++ X.1.drop s) X.2 _ rfl rfl rfl HO8.out hr8 (by simp only [List.length_append]; omega) hz8 ?_)
                intro v9 w9 ho9 HB9 _
                have HO9 : Hid (Own w9 w.heap.size v9 (wbF 0 [] (l.take (k + 1)))) := by
                  rw [HNx.out, HPB.out]
                  have h := ho9
                  (try simp only [List.append_assoc] at h)
                  (try simp only [List.append_assoc])
                  (try rw [List.drop_zero])
                  exact h
                have HW9 : Hid (Below w.heap.size w w9) := HW8.out.trans HB9.out
                clear ho9 HB9 HW8 HO8 c1 hz8 hr8
                go_wp2_with fail
                go_roundw
                case rel => exact ⟨k + 1, by omega, by go_num, HO9, HRI, HW9⟩
                case measure => simp [intOf]; omega
            · have hle : Op.bytesLess AH X.1 = false := by rw [rless_ltK]; exact decide_eq_false hlt2
              have HNR : Hid (¬ rise 0 [] (l.take (k + 1))) := fun h => hlt2 (HST.out.1 h).2
              go_wp2_with fail
              go_quiet (fail)
              go_wp2_with fail
              go_ret2
              have hmb : mbF l = 50 := by
                unfold mbF
                rw [if_neg (by omega), if_neg (not_not_intro HL2.out), if_pos (fun h => HNR.out (rise_take _ _ _ _ h))]
              refine ⟨_, by rw [hmb]; rfl, ?_, below_drewN HWo.out _⟩
              unfold wrB; rw [hmb, if_neg (by decide)]
              exact Own.nil _ _
        · go_wp2_with fail
          go_ret2
          have hkl : k = l.length := by omega
          rw [hkl, List.take_length] at HO HR
          have hmb : mbF l = 0 := mb_zero.2 ⟨by omega, HL2.out, HR.out⟩
          have hwr : wrB l = wb l := by unfold wrB; rw [if_pos hmb]
          refine ⟨_, by rw [hmb]; rfl, ?_, HWo.out⟩
          rw [hwr]
          exact HO.out
end Go.Proofs.Ytfgggfddehgigaa
