/- The contract of mayBe. -/
import Derived.Test.YtfgggfddehgigaaBK2
import Derived.Test.YtfgggfddehgigaaS1
namespace Go.Proofs.Ytfgggfddehgigaa
open Go.RowKit

theorem rise_snoc : ∀ (l : List Pr) (i : Nat) (ah : Ks) (x : Pr), rise i ah (l ++ [x]) ↔ rise i ah l ∧ ((0 < i + l.length) → ltK (match l.getLast? with | none => ah | some y => y.1) x.1)
  | [], i, ah, x => by simp [rise]
  | y :: l, i, ah, x => by
    have ih := rise_snoc l (i + 1) y.1 x
    rw [List.cons_append, rise, rise, ih, and_assoc]
    have e : (match (y :: l).getLast? with | none => ah | some z => z.1) = (match l.getLast? with | none => y.1 | some z => z.1) := by
      cases l with
      | nil => rfl
      | cons z l => rw [List.getLast?_cons_cons]; cases h : (z :: l).getLast? with
        | none => simp at h
        | some u => rfl
    rw [e]
    simp only [List.length_cons]
    constructor
    · rintro ⟨h1, h2, h3⟩; exact ⟨h1, h2, fun h => h3 (by omega)⟩
    · rintro ⟨h1, h2, h3⟩; exact ⟨h1, h2, fun h => h3 (by omega)⟩
theorem rise_step {l : List Pr} {k : Nat} (h0 : 0 < k) (hk : k < l.length) : rise 0 [] (l.take (k + 1)) ↔ rise 0 [] (l.take k) ∧ ltK (l[k - 1]'(by omega)).1 l[k].1 := by
  rw [List.take_add_one, List.getElem?_eq_getElem hk]
  show rise 0 [] (l.take k ++ [l[k]]) ↔ _
  rw [rise_snoc]
  have e : (l.take k).getLast? = some (l[k - 1]'(by omega)) := by
    rw [List.getLast?_eq_getElem?, List.length_take, Nat.min_eq_left (by omega), List.getElem?_take_of_lt (by omega), List.getElem?_eq_getElem]
  rw [e]
  simp only [List.length_take]
  constructor
  · rintro ⟨h1, h2⟩; exact ⟨h1, h2 (by omega)⟩
  · rintro ⟨h1, h2⟩; exact ⟨h1, fun _ => h2⟩
theorem rise_take : ∀ (l : List Pr) (i : Nat) (ah : Ks) (k : Nat), rise i ah l → rise i ah (l.take k)
  | [], _, _, _, _ => by simp [rise]
  | _ :: _, _, _, 0, _ => by simp [rise]
  | x :: l, i, ah, k + 1, h => by rw [List.take_succ_cons]; exact ⟨h.1, rise_take l (i + 1) x.1 k h.2⟩
theorem rise_one (l : List Pr) : rise 0 [] (l.take 1) := by
  cases l with
  | nil => simp [rise]
  | cons x l => simp [rise]
set_option maxRecDepth 100000 in
set_option maxHeartbeats 2000000 in
theorem mayBe_any (v : Value) (l : List Pr) (w : World) (hP : PReads w v l) :
    Calls Try.prog 19 #[v] w fun e w' => e = .returned (.int .i64 (mbF l)) ∧ Below w.heap.size w w' := by
  obtain ⟨a, cap, rfl, hcap, hm, h3⟩ := hP
  unfold maxLen at hm
  have H3 : Hid _ := h3
  clear h3
  go_enter Try.func19, Try.ntmps19
  by_cases g1 : (4096 : Int) < (l.length : Int)
  · go_wp2_with fail
    go_ret
    have : mbF l = 2 := by unfold mbF; rw [if_pos (by omega)]
    rw [this]
    exact ⟨rfl, Below.refl _ _⟩
  go_wp2_with fail
  go_loopw [11] (fun i wr => ∃ k : Nat, k ≤ l.length ∧ i = .int .i64 (k : Int) ∧ Hid (∀ x ∈ l.take k, okP x) ∧ Hid (Below w.heap.size w wr)) (fun i _ => l.length - (intOf i).toNat)
  case atStart => exact ⟨0, by omega, rfl, fun x hx => by simp at hx, Below.refl _ _⟩
  case round =>
    obtain ⟨k, hk, rfl, HO, HW⟩ := hrel
    by_cases hlt : k < l.length
    · obtain ⟨bA, oA, rfl, hbA, hA⟩ := H3.out.resolve_left (fun h => by rw [h] at hlt; simp at hlt)
      obtain ⟨kv, vv, q0, q1, r0, r1⟩ := hA k hlt
      obtain ⟨X, HX⟩ := hid_ex l[k]
      rw [← HX.out] at r0 r1
      have HTk : Hid (l.take (k + 1) = l.take k ++ [X]) := by unfold Hid; rw [List.take_add_one, List.getElem?_eq_getElem hlt, HX.out]; rfl
      have HXm : Hid (X ∈ l) := by rw [HX.out]; exact List.getElem_mem hlt
      have c0 := (HW.out.cell (p := ⟨bA, oA + k * 2, none⟩) hbA).trans q0
      have c1 := (HW.out.cell (p := ⟨bA, oA + k * 2 + 1, none⟩) hbA).trans q1
      obtain ⟨ak, ck, rfl, hmk⟩ := r0.form
      obtain ⟨av, cv, rfl, hmv⟩ := r1.form
      unfold maxLen at hmk hmv
      clear hA q0 q1 r0 r1 HX
      have HAl : Hid (Below w.heap.size w (wr.alloc (.cells #[.slice ak X.1.length ck, .slice av X.2.length cv] 38))) := HW.out.alloc HW.out.size _
      by_cases e1 : (4096 : Int) < (X.1.length : Int)
      · go_wp2_with fail
        go_ret
        have : mbF l = 2 := by
          unfold mbF
          rw [if_neg (by omega), if_pos (fun h => by have := (h X HXm.out).1; omega)]
        rw [this]
        exact ⟨rfl, HAl.out⟩
      by_cases e2 : (4096 : Int) < (X.2.length : Int)
      · go_wp2_with fail
        go_ret
        have : mbF l = 2 := by
          unfold mbF
          rw [if_neg (by omega), if_pos (fun h => by have := (h X HXm.out).2; omega)]
        rw [this]
        exact ⟨rfl, HAl.out⟩
      go_wp2_with fail
      go_roundw
      case rel =>
        refine ⟨k + 1, by omega, by go_num, ?_, HAl⟩
        rw [HTk.out]
        intro y hy
        rcases List.mem_append.1 hy with hy | hy
        · exact HO.out y hy
        · simp at hy; subst hy; exact ⟨by omega, by omega⟩
      case measure => simp [intOf]; omega
    · have hkl : k = l.length := by omega
      rw [hkl, List.take_length] at HO
      go_wp2_with fail
      go_loopw [5] (fun i wr => ∃ k : Nat, 1 ≤ k ∧ (k ≤ l.length ∨ k = 1) ∧ i = .int .i64 (k : Int) ∧ Hid (rise 0 [] (l.take k)) ∧ Hid (Below w.heap.size w wr)) (fun i _ => l.length - (intOf i).toNat)
      case atStart => exact ⟨1, by omega, by omega, rfl, rise_one l, HW⟩
      case round =>
        obtain ⟨k, hk1, hk2, rfl, HR, HW⟩ := hrel
        by_cases hlt : k < l.length
        · obtain ⟨bA, oA, rfl, hbA, hA⟩ := H3.out.resolve_left (fun h => by rw [h] at hlt; simp at hlt)
          obtain ⟨k', rfl⟩ : ∃ k', k = k' + 1 := ⟨k - 1, by omega⟩
          obtain ⟨kx, _, q0, _, r0, _⟩ := hA (k' + 1) hlt
          obtain ⟨ky, _, q1, _, r1, _⟩ := hA k' (by omega)
          have HST : Hid (rise 0 [] (l.take (k' + 1 + 1)) ↔ rise 0 [] (l.take (k' + 1)) ∧ ltK (l[k']'(by omega)).1 l[k' + 1].1) := rise_step (by omega) hlt
          obtain ⟨X, HX⟩ := hid_ex l[k' + 1]
          obtain ⟨Y, HY⟩ := hid_ex (l[k']'(by omega))
          rw [← HX.out] at r0 HST
          rw [← HY.out] at r1 HST
          have c0 := (HW.out.cell (p := ⟨bA, oA + (k' + 1) * 2, none⟩) hbA).trans q0
          have c1 := (HW.out.cell (p := ⟨bA, oA + k' * 2, none⟩) hbA).trans q1
          have HRx : Hid (Reads w kx X.1) := r0
          have HRy : Hid (Reads w ky Y.1) := r1
          clear hA q0 q1 r0 r1 HX HY
          have HWQ : Hid _ := fun n => below_drewN HW.out n
          go_wp2_with fail
          go_quiet (exact (cmp_any _ _ Y.1 X.1 _ (HRy.out.below (below_drewN HW.out _)) (HRx.out.below (below_drewN HW.out _))).mono (fun e w' h => ⟨h.1, _, h.2⟩))
          have HW2 : Hid (Below w.heap.size w (wr.drewN nq)) := below_drewN HW.out nq
          clear c0 c1 HRx HRy HWQ
          by_cases hl : ltK Y.1 X.1
          · have hc : Lib.compareBytes Y.1 X.1 = -1 := hl
            rw [hc]
            go_wp2_with fail
            go_roundw
            case rel => exact ⟨k' + 1 + 1, by omega, by omega, by go_num, HST.out.2 ⟨HR.out, hl⟩, HW2⟩
            case measure => simp [intOf]; omega
          · have hc : 0 ≤ Lib.compareBytes Y.1 X.1 := cmp_ge.2 hl
            go_wp2_with fail
            go_ret
            have : mbF l = 50 := by
              unfold mbF
              rw [if_neg (by omega), if_neg (fun h => h HO.out), if_pos (fun h => hl (HST.out.1 (rise_take _ _ _ _ h)).2)]
            rw [this]
            exact ⟨rfl, HW2.out⟩
        · go_wp2_with fail
          go_ret
          have : mbF l = 0 := mb_zero.2 ⟨by omega, HO.out, by have := HR.out; rwa [List.take_of_length_le (by omega)] at this⟩
          rw [this]
          exact ⟨rfl, HW.out⟩
end Go.Proofs.Ytfgggfddehgigaa
