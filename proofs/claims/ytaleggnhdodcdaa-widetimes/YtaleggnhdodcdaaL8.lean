/- The walk of WideTimes: whatever the numbers, it returns true. -/
import Derived.Test.YtaleggnhdodcdaaW9
import Derived.Deep.Cut
import Derived.OpenShut
namespace Go.Proofs.Ytaleggnhdodcdaa
open Go.RowKit

theorem bcell {w1 w2 : World} {b o : Nat} {v : Option Value} (hb : Below w1.heap.size w1 w2) (h : b < w1.heap.size) (hc : w1.cell? ⟨b, o, none⟩ = v) : w2.cell? ⟨b, o, none⟩ = v := by
  rw [hb.cell (p := ⟨b, o, none⟩) h]; exact hc
theorem bfroz {w1 w2 : World} {b o : Nat} {v : Bool} (hb : Below w1.heap.size w1 w2) (h : b < w1.heap.size) (hc : w1.frozen? ⟨b, o, none⟩ = v) : w2.frozen? ⟨b, o, none⟩ = v := by
  rw [hb.frozen (p := ⟨b, o, none⟩) h]; exact hc
theorem mul_succ' (v : Int) (k : Nat) : v * (k : Int) + v = v * ((k + 1 : Nat) : Int) := by
  rw [Int.natCast_add, Int.mul_add]; simp
theorem mul_pred (v n : Int) : v * (n - 1) + v = v * n := by
  rw [Int.mul_sub, Int.mul_one]; omega

set_option maxRecDepth 100000 in
set_option maxHeartbeats 2000000 in
theorem timesWalk (a0 a1 a2 : Int) (w : World) (w0 : (Lit.int .i64 a0).wf = true) (w1 : (Lit.int .u64 a1).wf = true) (w2 : (Lit.int .u8 a2).wf = true) :
    Calls Try.prog 8 #[.int .i64 a0, .int .u64 a1, .int .u8 a2] w fun e w' => e = .returned (.bool true) ∧ Below w.heap.size w w' := by
  have b0 := bounds_i64 w0; have b1 := bounds_u64 w1; have b2 := bounds_u8 w2
  obtain ⟨v1, v2⟩ := b0; obtain ⟨n1, n2⟩ := b1
  obtain ⟨few, rfl⟩ := Int.eq_ofNat_of_zero_le b2.1
  have f2 : few ≤ 255 := by omega
  clear w0 w1 w2 b2
  go_enter Try.func8, Try.ntmps8
  go_wp2_with fail
  refine (of_exact 0 (by decide) (by decide) _).mono ?_
  rintro e w' ⟨rfl, c, rfl⟩
  have z0 := hi_zero; have z1 := lo_zero
  go_wp2_with fail
  clear z0 z1
  go_loopw [8] (fun i wr => ∃ k : Nat, k ≤ few ∧ i = .int .i64 k ∧ wr.cell? ⟨w.heap.size + 1, 0, none⟩ = some (.int .i64 (hi (a0 * k))) ∧ wr.cell? ⟨w.heap.size + 1, 1, none⟩ = some (.int .u64 (lo (a0 * k))) ∧ wr.frozen? ⟨w.heap.size + 1, 0, none⟩ = false ∧ wr.frozen? ⟨w.heap.size + 1, 1, none⟩ = false ∧ w.heap.size + 1 < wr.heap.size ∧ Below w.heap.size w wr) (fun i _ => few - (intOf i).toNat)
  case atStart =>
    refine ⟨0, by omega, rfl, ?_, ?_, ?_, ?_, ?_, ?_⟩
    · simp [go_sem, hi_zero]
    · simp [go_sem, lo_zero]
    · simp [go_sem]
    · simp [go_sem]
    · simp
    · exact ((Below.refl _ _).alloc (by simp) _).alloc (by simp) _
  case round =>
    obtain ⟨k, hk, rfl, hc0, hc1, hf0, hf1, hsz, hbr⟩ := hrel
    by_cases hlt : k < few
    · have HM : Hid (a0 * (k : Int) + a0 = a0 * ((k + 1 : Nat) : Int)) := mul_succ' a0 k
      have HB : Hid (Below w.heap.size w wr) := hbr
      clear hbr
      generalize a0 * (k : Int) = m at *
      go_wp2_with fail
      have hsz2 : w.heap.size + 1 < wr.heap.size + 1 := by omega
      go_region_with (first
          | (go_at_call 10; refine (of_any a0 v1 v2 _).mono ?_; rintro e w2 ⟨rfl, hb2⟩; have hs2 := hb2.size; have e0 := bcell hb2 hsz hc0; have e1 := bcell hb2 hsz hc1; have g0 := bfroz hb2 hsz hf0; have g1 := bfroz hb2 hsz hf1; have hsz3 : w.heap.size + 1 < w2.heap.size := Nat.lt_of_lt_of_le hsz hs2; have HB2 : Hid (Below w.heap.size w w2) := HB.out.drew.trans (hb2.mono HB.out.size); clear hb2)
          | (go_at_call 12; refine (add_any m a0 _).mono ?_; rintro e w3 ⟨rfl, hb3⟩; have hs3 := hb3.size; have d0 := bcell hb3 hsz3 e0; have d1 := bcell hb3 hsz3 e1; have k0 := bfroz hb3 hsz3 g0; have k1 := bfroz hb3 hsz3 g1; have HB3 : Hid (Below w.heap.size w w3) := HB2.out.trans (hb3.mono HB2.out.size); clear hb3))
      all_goals
        have HF : Hid (∃ k' : Nat, k' ≤ few ∧ Value.int .i64 ((k : Int) + 1) = .int .i64 k' ∧ ((w3.setCell ⟨w.heap.size + 1, 0, none⟩ (.int .i64 (hi (m + a0)))).setCell ⟨w.heap.size + 1, 1, none⟩ (.int .u64 (lo (m + a0)))).cell? ⟨w.heap.size + 1, 0, none⟩ = some (.int .i64 (hi (a0 * k'))) ∧ ((w3.setCell ⟨w.heap.size + 1, 0, none⟩ (.int .i64 (hi (m + a0)))).setCell ⟨w.heap.size + 1, 1, none⟩ (.int .u64 (lo (m + a0)))).cell? ⟨w.heap.size + 1, 1, none⟩ = some (.int .u64 (lo (a0 * k'))) ∧ ((w3.setCell ⟨w.heap.size + 1, 0, none⟩ (.int .i64 (hi (m + a0)))).setCell ⟨w.heap.size + 1, 1, none⟩ (.int .u64 (lo (m + a0)))).frozen? ⟨w.heap.size + 1, 0, none⟩ = false ∧ ((w3.setCell ⟨w.heap.size + 1, 0, none⟩ (.int .i64 (hi (m + a0)))).setCell ⟨w.heap.size + 1, 1, none⟩ (.int .u64 (lo (m + a0)))).frozen? ⟨w.heap.size + 1, 1, none⟩ = false ∧ w.heap.size + 1 < ((w3.setCell ⟨w.heap.size + 1, 0, none⟩ (.int .i64 (hi (m + a0)))).setCell ⟨w.heap.size + 1, 1, none⟩ (.int .u64 (lo (m + a0)))).heap.size ∧ Below w.heap.size w ((w3.setCell ⟨w.heap.size + 1, 0, none⟩ (.int .i64 (hi (m + a0)))).setCell ⟨w.heap.size + 1, 1, none⟩ (.int .u64 (lo (m + a0))))) := by
          refine ⟨k + 1, by omega, by go_num, ?_, ?_, ?_, ?_, ?_, ?_⟩
          · rw [← HM.out, World.cell?_setCell_other (h := addr_ne _ 1 0 (by omega)), World.cell?_setCell_same _ _ _ d0]
          · rw [← HM.out]
            refine World.cell?_setCell_same _ _ _ (u := .int .u64 (lo m)) ?_
            rw [World.cell?_setCell_other (h := addr_ne _ 0 1 (by omega))]; exact d1
          · rw [World.frozen?_setCell, World.frozen?_setCell]; exact k0
          · rw [World.frozen?_setCell, World.frozen?_setCell]; exact k1
          · simp [World.setCell]; omega
          · exact (HB3.out.setCell (by simp) _).setCell (by simp) _
        go_wp2
        go_roundw
        case rel => exact HF.out
        case measure => simp [intOf]; omega
    · have hke : k = few := by omega
      subst hke
      have HB : Hid (Below w.heap.size w wr) := hbr
      clear hbr
      have t1 : (0 : Int) ≤ (k : Int) := by omega
      have t2 : (k : Int) < 18446744073709551616 := by omega
      have hwk : IntKind.u64.wrap (k : Int) = k := by rw [IntKind.wrap_u64]; omega
      go_wp2_with fail
      go_region_with (first
          | (go_at_call 16; refine (times_any a0 (k : Int) v1 v2 t1 t2 _).mono ?_; rintro e w2 ⟨rfl, hb2⟩; have hs2 := hb2.size; have e0 := bcell hb2 hsz hc0; have e1 := bcell hb2 hsz hc1; have HB2 : Hid (Below w.heap.size w w2) := HB.out.drew.trans (hb2.mono HB.out.size); clear hb2))
      all_goals
        have hsz2 : w.heap.size ≤ w2.heap.size := HB2.out.size
        clear hwk hk hlt hc0 hc1 hf0 hf1 e0 e1 t1 t2 f2 hsz hs2
        generalize hi (a0 * (k : Int)) = q1
        generalize lo (a0 * (k : Int)) = q2
        by_cases hz : a1 = 0
        · subst hz
          have hb : ((0 : Int) == 0) = true := rfl
          go_wp2_with fail
          refine (alive_any _).mono ?_
          rintro e w4 ⟨rfl, hb4⟩
          have HB4 : Hid (Below w.heap.size w w4) := HB2.out.trans (hb4.mono hsz2)
          clear hb4
          go_wp2_with fail
          go_ret
          exact ⟨rfl, HB4.out⟩
        · have hb : (a1 == 0) = false := by simpa using hz
          have hp : a0 * (a1 - 1) + a0 = a0 * a1 := mul_pred a0 a1
          have HP : Hid (a0 * (a1 - 1) + a0 = a0 * a1) := hp
          have hge : 1 ≤ a1 := by omega
          clear hz hp
          go_wp2_with fail
          refine (alive_any _).mono ?_
          rintro e w4 ⟨rfl, hb4⟩
          have HB4 : Hid (Below w.heap.size w w4) := HB2.out.trans (hb4.mono hsz2)
          clear hb4
          go_wp2_with fail
          refine (times_any a0 a1 v1 v2 n1 (by omega) _).mono ?_
          rintro e w5 ⟨rfl, hb5⟩
          have HB5 : Hid (Below w.heap.size w w5) := HB4.out.trans (hb5.mono HB4.out.size)
          clear hb5
          go_wp2_with fail
          refine (times_any a0 (a1 - 1) v1 v2 (by omega) (by omega) _).mono ?_
          rintro e w6 ⟨rfl, hb6⟩
          have HB6 : Hid (Below w.heap.size w w6) := HB5.out.trans (hb6.mono HB5.out.size)
          clear hb6
          go_wp2_with fail
          refine (of_any a0 v1 v2 _).mono ?_
          rintro e w7 ⟨rfl, hb7⟩
          have HB7 : Hid (Below w.heap.size w w7) := HB6.out.trans (hb7.mono HB6.out.size)
          clear hb7
          go_wp2_with fail
          refine (add_any _ _ _).mono ?_
          rw [HP.out]
          rintro e w8 ⟨rfl, hb8⟩
          have HB8 : Hid (Below w.heap.size w w8) := HB7.out.trans (hb8.mono HB7.out.size)
          clear hb8 HP
          generalize a0 * a1 = m1
          generalize a0 * (a1 - 1) = m2
          go_wp2_with fail
          go_ret
          exact ⟨rfl, HB8.out⟩
end Go.Proofs.Ytaleggnhdodcdaa
