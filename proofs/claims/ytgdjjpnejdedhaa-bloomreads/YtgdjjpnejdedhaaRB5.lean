/- The contract of the reference's Write. -/
import Derived.Test.YtgdjjpnejdedhaaRB4
namespace Go.Proofs.Ytgdjjpnejdedhaa
open Go.RowKit

theorem half_bit (x m : Nat) : x / 2 ^ m = 2 * (x / 2 ^ (m + 1)) + (if x.testBit m then 1 else 0) := by
  have e : x / 2 ^ (m + 1) = x / 2 ^ m / 2 := by rw [Nat.pow_succ, Nat.div_div_eq_div_mul]
  rw [e, Nat.testBit_eq_decide_div_mod_eq]
  generalize x / 2 ^ m = y
  rcases Nat.mod_two_eq_zero_or_one y with h | h <;> simp [h] <;> omega
theorem gb_byte (D : List UInt8) (j m : Nat) (hj : j < D.length) (hm : m < 8) : gb D (8 * j + m) = D[j].toNat.testBit m := by
  unfold gb
  have e1 : (8 * j + m) / 8 = j := by omega
  have e2 : (8 * j + m) % 8 = m := by omega
  rw [e1, e2]; simp [List.getD, hj]
set_option maxRecDepth 100000 in
set_option maxHeartbeats 1000000 in
theorem refWrite_any (v : Value) (h : Nat) (D : List UInt8) (w : World) (base : Nat) (hF : RF w base v h (dgs D)) :
    Calls Try.prog 18 #[v] w fun e W' => ∃ v', e = .returned v' ∧ Own W' w.heap.size v' (UInt8.ofNat h :: D) ∧ Below w.heap.size w W' := by
  obtain ⟨B, g, cap, rfl, hBB, hc, hO, hBg, hh1, hh8, hd8, hd9⟩ := id hF
  have hBlt := (Array.getElem?_eq_some_iff.1 hc).1
  have c0 := cell_of hc 0 (by simp)
  have c1 := cell_of hc 1 (by simp)
  simp at c0 c1
  have hgl := (World.ownsRow.lt hO g rfl).2
  have HG : Hid (∀ p (hp : p < (dgs D).length), w.cell? ⟨g, p, none⟩ = some (.bool (gb D p))) := fun p hp => by
    have := (row_bool_at hO p hp).1; rw [dgs_at] at this; exact this
  have hDL : (dgs D).length = 8 * D.length := dgs_len D
  rw [hDL] at c0 hd8 hd9
  have HC0 : Hid (w.cell? ⟨B, 0, none⟩ = some (.slice (some ⟨g, 0, none⟩) (8 * D.length) cap)) := c0
  have HDL : Hid ((dgs D).length = 8 * D.length) := hDL
  clear hF hO hc hDL
  go_enter Try.func18, Try.ntmps18
  go_wp2_with (at_builtin; refine wpList_app1 rfl _ _ rfl w.heap.size (.slice none 0 0) [] (UInt8.ofNat h) [UInt8.ofNat h] rfl (by unfold bc; rw [UInt8.toNat_ofNat', Nat.mod_eq_of_lt (by omega)]) rfl rfl (Own.nil _ _) (by simp) (Nat.le_refl _) ?_)
  intro v1 w1 HO1 hb1
  have HB1 : Hid (Below w.heap.size w w1) := hb1.out
  have HP1 : Hid (Own w1 w.heap.size v1 (UInt8.ofNat h :: D.take 0)) := HO1
  clear hb1 HO1
  go_wp2_with fail
  go_loopw [3, 4] (fun o i wr => ∃ j : Nat, j ≤ D.length ∧ i = .int .i64 (8 * (j : Int)) ∧ Hid (Own wr w.heap.size o (UInt8.ofNat h :: D.take j)) ∧ Hid (Below w.heap.size w wr)) (fun _ i _ => 8 * D.length - (intOf i).toNat)
  case atStart => exact ⟨0, by omega, rfl, HP1, HB1⟩
  case round =>
    obtain ⟨j, hj, rfl, HO, HB⟩ := hrel
    clear HP1 HB1
    have c0' := (HB.out.cell (p := ⟨B, 0, none⟩) hBlt).trans HC0.out
    by_cases hlt : j < D.length
    · have i1 : 8 * (j : Int) < 8 * (D.length : Int) := by omega
      obtain ⟨x, Hx⟩ := hid_ex D[j].toNat
      have hx : x < 256 := by rw [Hx.out]; exact UInt8.toNat_lt _
      have hdv : x / 2 ^ 8 = 0 := Nat.div_eq_of_lt hx
      have HDV : Hid (x / 2 ^ 8 = 0) := hdv
      clear hdv
      go_wp2_with fail
      rename World => wo
      go_loopw [5, 6] (fun n k wr => ∃ m : Nat, m ≤ 8 ∧ k = .int .i64 ((m : Int) - 1) ∧ n = .int .i64 ((x / 2 ^ m : Nat) : Int) ∧ Hid (Below wo.heap.size wo wr)) (fun _ k _ => ((intOf k) + 1).toNat)
      case atStart => exact ⟨8, by omega, rfl, by rw [HDV.out]; rfl, Below.refl _ _⟩
      case round =>
        obtain ⟨m, hm, rfl, rfl, HB2⟩ := hrel
        have HB3 : Hid (Below w.heap.size w wr) := HB.out.trans (HB2.out.mono HB.out.size)
        obtain ⟨y, Hy⟩ := hid_ex (x / 2 ^ m)
        rw [← Hy.out]
        have hy : y < 256 := by rw [Hy.out]; exact Nat.lt_of_le_of_lt (Nat.div_le_self _ _) hx
        cases m with
        | zero =>
          have hyx : y = x := by rw [Hy.out]; simp
          subst hyx
          have HT : Hid ((UInt8.ofNat h :: D.take (j + 1)) = (UInt8.ofNat h :: D.take j) ++ [D[j]]) := by
            unfold Hid; rw [List.take_add_one, List.getElem?_eq_getElem hlt]; rfl
          have HOo : Own wr w.heap.size _ (UInt8.ofNat h :: D.take j) := HO.out.below HB2.out
          go_wp2_with (at_builtin; refine wpList_app1 rfl _ _ rfl w.heap.size _ (UInt8.ofNat h :: D.take j) D[j] (UInt8.ofNat h :: D.take (j + 1)) HT.out (by unfold bc; rw [← Hx.out]) rfl rfl HOo (by simp; omega) HB3.out.size ?_)
          intro v5 w5 HO5 hb5
          have HB5 : Hid (Below w.heap.size w w5) := HB3.out.trans hb5.out
          have HP5 : Hid (Own w5 w.heap.size v5 (UInt8.ofNat h :: D.take (j + 1))) := HO5
          clear hb5 HO5 HOo
          go_wp2_with fail
          go_roundw
          case rel => exact ⟨j + 1, by omega, by go_num, HP5, HB5⟩
          case measure => simp [intOf]; omega
        | succ m =>
          have HH := half_bit x m
          rw [← Hy.out] at HH
          have hgp := (HB3.out.cell (p := ⟨g, 8 * j + m, none⟩) hgl).trans (HG.out (8 * j + m) (by rw [HDL.out]; omega))
          have hgb := gb_byte D j m hlt (by omega)
          rw [← Hx.out] at hgb
          rw [hgb] at hgp
          have c02 := (HB3.out.cell (p := ⟨B, 0, none⟩) hBlt).trans HC0.out
          have q1 : (8 * (j : Int) + ((m + 1 : Nat) - 1)).toNat = 8 * j + m := by omega
          clear hgb
          cases hbit : x.testBit m
          · rw [hbit] at hgp HH
            simp only [Bool.false_eq_true, if_false, Nat.add_zero] at HH
            have HHH : Hid _ := HH
            clear HH
            go_wp2_with fail
            go_roundw
            case rel => exact ⟨m, by omega, by go_num, by rw [HHH.out]; go_num, HB2⟩
            case measure => simp [intOf]
          · rw [hbit] at hgp HH
            simp only [if_true] at HH
            have HHH : Hid _ := HH
            clear HH
            go_wp2_with fail
            go_roundw
            case rel => exact ⟨m, by omega, by go_num, by rw [HHH.out]; go_num, HB2⟩
            case measure => simp [intOf]
    · have i1 : ¬ 8 * (j : Int) < 8 * (D.length : Int) := by omega
      have hje : j = D.length := by omega
      rw [hje, List.take_length] at HO
      clear hje
      go_wp2_with fail
      go_ret
      exact ⟨_, rfl, HO.out, HB.out⟩
end Go.Proofs.Ytgdjjpnejdedhaa
