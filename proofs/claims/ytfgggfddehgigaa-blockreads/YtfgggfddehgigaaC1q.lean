/- The contracts of the reference's Short and ReadShort (in a seat of layer 9). -/
import Derived.Test.YtfgggfddehgigaaBK4
namespace Go.Proofs.Ytfgggfddehgigaa
open Go.RowKit

theorem own_below {w w' : World} {base : Nat} {e : TypeId} {v : Value} {n : Nat} {xs : List Value} (h : w.ownsRow base e 1 v n xs) (hb : Below w.heap.size w w') : w'.ownsRow base e 1 v n xs := by
  refine ⟨h.1, ?_⟩
  rcases h.2 with h2 | ⟨g, cap, cur, hv, hg, hw, r⟩
  · exact .inl h2
  · refine .inr ⟨g, cap, cur, hv, hg, ?_, r⟩
    rw [hb.block g (Array.getElem?_eq_some_iff.1 hw).1]; exact hw
set_option maxRecDepth 100000 in
set_option maxHeartbeats 1000000 in
theorem refShort_lo (n : Nat) (hn : n < 128) (w : World) :
    Calls Try.prog 22 #[.int .u64 (n : Int)] w fun e w' => ∃ v, e = .returned v ∧ w'.ownsRow w.heap.size 5 1 v (sh n).length ((sh n).map bc) ∧ Below w.heap.size w w' := by
  obtain ⟨i0, hi, hz0, hz1, hz2⟩ := info_parts info5
  have hlti : (n : Int) < 128 := by omega
  have hown : w.ownsRow w.heap.size 5 1 (.slice none 0 0) 0 [] := World.ownsRow_nil _ _ _ _
  have hsz : w.heap.size ≤ w.heap.size := Nat.le_refl _
  go_enter Try.func22, Try.ntmps22
  go_wp2_with (at_builtin; refine wpList_append_own _ rfl _ _ 23 rfl w.heap.size 5 i0 (.int .u8 0) 1 1 Try.underlying23 hi hz0 hz1 hz2 rfl (by decide) _ _ _ rfl (hown.alloc _) ⟨w.heap.size, 0, none⟩ 1 1 [.int .u8 (n : Int)] rfl rfl news1 one1 (len_ok (by omega)).1 (len_ok (by omega)).2 (al_ok hsz) ?_)
  intro v' w1 hown' hgrow _
  have HO2 : Hid (w1.ownsRow w.heap.size 5 1 v' (sh n).length ((sh n).map bc)) := by
    rw [sh_lo hn]
    simp only [List.map_cons, List.map_nil]
    rw [bc_of (by omega)]
    exact hown'
  have HB2 : Hid (Below w.heap.size w w1) := ((Below.refl _ _).alloc hsz _).grown hgrow (al_ok hsz) (own_block hown)
  clear hown hown' hgrow
  go_wp2_with fail
  go_ret
  exact ⟨_, rfl, HO2.out, HB2.out⟩
set_option maxRecDepth 100000 in
set_option maxHeartbeats 1000000 in
theorem refShort_hi (n : Nat) (hn : ¬ n < 128) (hn2 : n < 18446744073709551616) (w : World)
    (ih : ∀ w, Calls Try.prog 22 #[.int .u64 ((n / 128 : Nat) : Int)] w fun e w' => ∃ v, e = .returned v ∧ w'.ownsRow w.heap.size 5 1 v (sh (n / 128)).length ((sh (n / 128)).map bc) ∧ Below w.heap.size w w') :
    Calls Try.prog 22 #[.int .u64 (n : Int)] w fun e w' => ∃ v, e = .returned v ∧ w'.ownsRow w.heap.size 5 1 v (sh n).length ((sh n).map bc) ∧ Below w.heap.size w w' := by
  obtain ⟨i0, hi, hz0, hz1, hz2⟩ := info_parts info5
  have hlti : ¬ (n : Int) < 128 := by omega
  have HIH : Hid _ := ih
  obtain ⟨X, HXX⟩ : ∃ X, Hid (X = UInt8.ofNat (n % 128 + 128)) := ⟨_, rfl⟩
  have hl10 := sh_len10 (show n / 128 < 18446744073709551616 by omega)
  have hown : w.ownsRow w.heap.size 5 1 (.slice none 0 0) 0 [] := World.ownsRow_nil _ _ _ _
  have hsz : w.heap.size ≤ w.heap.size := Nat.le_refl _
  clear ih
  go_enter Try.func22, Try.ntmps22
  go_wp2_with (at_builtin; refine wpList_append_own _ rfl _ _ 23 rfl w.heap.size 5 i0 (.int .u8 0) 1 1 Try.underlying23 hi hz0 hz1 hz2 rfl (by decide) _ _ _ rfl (hown.alloc _) ⟨w.heap.size, 0, none⟩ 1 1 [.int .u8 ((n : Int) % 128 + 128)] rfl rfl news1 one1 (len_ok (by omega)).1 (len_ok (by omega)).2 (al_ok hsz) ?_)
  intro v' w1 hown' hgrow _
  have HO1 : Hid (w1.ownsRow w.heap.size 5 1 v' 1 [bc X]) := by
    rw [HXX.out, bc_of (by omega)]
    have e : ((n % 128 + 128 : Nat) : Int) = (n : Int) % 128 + 128 := by omega
    rw [e]
    exact hown'
  have HB1 : Hid (Below w.heap.size w w1) := ((Below.refl _ _).alloc hsz _).grown hgrow (al_ok hsz) (own_block hown)
  clear hown hown' hgrow hsz
  have ed : ((n / 128 : Nat) : Int) = (n : Int) / 128 := by omega
  rw [ed] at HIH
  go_wp2_with fail
  refine (Hid.out HIH _).mono ?_
  rintro e w2 ⟨v2, rfl, o2, b2⟩
  have hown2 : w2.ownsRow w.heap.size 5 1 v' 1 [bc X] := own_below HO1.out b2
  have HB2 : Hid (Below w.heap.size w w2) := HB1.out.trans (b2.mono HB1.out.size)
  have hsz2 := HB2.out.size
  obtain ⟨h00, _⟩ | ⟨sb, so, sc, rfl, _, _, _, _, g6⟩ := reads_own o2
  · have := sh_pos (n / 128); rw [h00] at this; simp at this
  have hps := sh_pos (n / 128)
  clear o2 b2 HO1 HB1
  go_wp2_with (at_builtin; refine wpList_append_own _ rfl _ _ 23 rfl w.heap.size 5 i0 (.int .u8 0) 1 1 Try.underlying23 hi hz0 hz1 hz2 rfl (by decide) _ _ _ rfl hown2 ⟨sb, so, none⟩ (sh (n / 128)).length sc ((sh (n / 128)).map bc) rfl (by simp) (newsR g6) one_bc (len_ok (by omega)).1 (len_ok (by omega)).2 hsz2 ?_)
  intro v3 w3 hown3 hgrow3 _
  have HO3 : Hid (w3.ownsRow w.heap.size 5 1 v3 (sh n).length ((sh n).map bc)) := by
    rw [sh_hi hn]
    simp only [List.map_cons, List.length_cons]
    rw [Nat.add_comm, ← HXX.out]
    exact hown3
  have HB3 : Hid (Below w.heap.size w w3) := HB2.out.grown hgrow3 hsz2 (own_block hown2)
  clear hown2 hown3 hgrow3 hsz2 g6
  go_wp2_with fail
  go_ret
  exact ⟨_, rfl, HO3.out, HB3.out⟩
theorem refShort_any (n : Nat) : n < 18446744073709551616 → ∀ w : World,
    Calls Try.prog 22 #[.int .u64 (n : Int)] w fun e w' => ∃ v, e = .returned v ∧ w'.ownsRow w.heap.size 5 1 v (sh n).length ((sh n).map bc) ∧ Below w.heap.size w w' := by
  induction n using Nat.strongRecOn with
  | _ n ih =>
    intro hn w
    by_cases h : n < 128
    · exact refShort_lo n h w
    · exact refShort_hi n h hn w (fun w => ih (n / 128) (by omega) (by omega) w)

set_option maxRecDepth 100000 in
set_option maxHeartbeats 1000000 in
theorem refReadShort_some (b off cap : Nat) (l : List UInt8) (h0 : 0 < l.length) (w : World) (hc : ∀ j (h : j < l.length), w.cell? ⟨b, off + j, none⟩ = some (bc l[j])) :
    Calls Try.prog 29 #[.slice (some ⟨b, off, none⟩) l.length cap] w fun e w' => e = .returned (.tuple #[.int .u64 (rsF l 0 0).1, .int .i64 (rsF l 0 0).2.1, .int .i64 (rsF l 0 0).2.2]) ∧ Below w.heap.size w w' := by
  go_enter Try.func29, Try.ntmps29
  go_wp2_with fail
  go_loop [5, 6, 7] (fun x wo i => ∃ k v : Nat, k ≤ l.length ∧ wo = .int .u64 ((128 ^ k : Nat) : Int) ∧ k ≤ 9 ∧ v < 128 ^ k ∧ i = .int .i64 (k : Int) ∧ x = .int .u64 (v : Int) ∧ rsF (l.drop k) k v = rsF l 0 0) (fun _ _ i => l.length - (intOf i).toNat)
  case atStart => exact ⟨0, 0, by omega, rfl, by omega, by decide, rfl, rfl, rfl⟩
  case round =>
    obtain ⟨k, v, hk, rfl, hk9, hv, rfl, rfl, hF⟩ := hrel
    by_cases hlt : k < l.length
    · have hcell := hc k hlt
      have hki : (k : Int) < (l.length : Int) := by omega
      rw [List.drop_eq_getElem_cons hlt, rsF_cons] at hF
      generalize l[k] = x at *
      have hx : x.toNat < 256 := UInt8.toNat_lt x
      unfold bc at hcell
      generalize x.toNat = y at *
      clear hc
      by_cases h9 : k = 9 ∧ 1 < y
      · rw [if_pos h9] at hF
        have HF : Hid _ := hF.symm
        have i1 : ((k : Int) == 9) = true := by simp; omega
        have i2 : ((y : Int) != 0) = true := by simp; omega
        have i3 : ((y : Int) != 1) = true := by simp; omega
        generalize 128 ^ k = q at *
        clear hF h9
        go_wp2_with fail
        go_ret3
        exact ⟨by rw [HF.out]; rfl, Below.refl _ _⟩
      · rw [if_neg h9] at hF
        have hfit := short_fit (y % 128) k hk9 (by omega) (fun h => by omega)
        have hp := pow128 k hk9
        have hw0 : ((y % 128 : Nat) : Int) = (y : Int) % 128 := by omega
        obtain ⟨Z, hZ⟩ : ∃ Z, Z = y % 128 * 128 ^ k := ⟨_, rfl⟩
        have hw1 : IntKind.u64.wrap ((y : Int) % 128 * ((128 ^ k : Nat) : Int)) = (Z : Int) := by
          rw [← hw0, ← Int.natCast_mul, IntKind.wrap_u64, hZ]; omega
        have hw2 : IntKind.u64.wrap ((v : Int) + (Z : Int)) = ((v + Z : Nat) : Int) := by
          rw [IntKind.wrap_u64]; omega
        rw [← hZ] at hF hfit
        by_cases h128 : 128 ≤ y
        · rw [if_pos h128] at hF
          have HF : Hid _ := hF
          have hk8 : k ≤ 8 := by omega
          have i1 : ¬ (y : Int) < 128 := by omega
          have i3 : ((k : Int) == 9) = false := by simp; omega
          have hp1 := pow128 (k + 1) (by omega)
          have hpe : 128 ^ (k + 1) = 128 ^ k * 128 := Nat.pow_succ ..
          have HV2 : Hid (v + Z < 128 ^ (k + 1)) := by
            have h2 : y % 128 * 128 ^ k ≤ 127 * 128 ^ k := Nat.mul_le_mul_right _ (by omega)
            unfold Hid; rw [hZ, hpe]; generalize 128 ^ k = q at *; omega
          have hw3 : IntKind.u64.wrap (((128 ^ k : Nat) : Int) * 128) = ((128 ^ (k + 1) : Nat) : Int) := by
            rw [IntKind.wrap_u64, hpe]; generalize 128 ^ k = q at *; omega
          generalize hq : 128 ^ k = q at *
          generalize hq1 : 128 ^ (k + 1) = q1 at *
          clear hF h9 h128 hpe hp hp1 hZ hfit hw0
          go_wp2_with fail
          go_round
          case rel => exact ⟨k + 1, v + Z, by omega, by rw [hq1], by omega, by rw [hq1]; exact HV2.out, by go_num, by go_num, HF.out⟩
          case measure => simp [intOf]; omega
        · rw [if_neg h128] at hF
          have i1 : (y : Int) < 128 := by omega
          generalize 128 ^ k = q at *
          clear hp hfit hw0 hZ
          by_cases h00 : y = 0 ∧ 0 < k
          · rw [if_pos h00] at hF
            have HF : Hid _ := hF.symm
            have i2 : ((y : Int) == 0) = true := by simp; omega
            have i4 : (0 : Int) < (k : Int) := by omega
            have i7 : ((y : Int) != 0) = false := by simp; omega
            by_cases i5 : k = 9
            · have i3 : ((k : Int) == 9) = true := by simp; omega
              clear hF h9 h128 h00 i5
              go_wp2_with fail
              go_ret3
              exact ⟨by rw [HF.out]; rfl, Below.refl _ _⟩
            · have i3 : ((k : Int) == 9) = false := by simp; omega
              clear hF h9 h128 h00 i5
              go_wp2_with fail
              go_ret3
              exact ⟨by rw [HF.out]; rfl, Below.refl _ _⟩
          · rw [if_neg h00] at hF
            have HF : Hid _ := hF.symm
            by_cases h9b : k = 9
            · have i3 : ((k : Int) == 9) = true := by simp; omega
              have i7 : ((y : Int) != 0) = true := by simp; omega
              have i8 : ((y : Int) != 1) = false := by simp; omega
              have i9 : ((y : Int) == 0) = false := by simp; omega
              clear hF h9 h128 h00 h9b
              go_wp2_with fail
              go_ret3
              exact ⟨by rw [HF.out]; rfl, Below.refl _ _⟩
            · have i3 : ((k : Int) == 9) = false := by simp; omega
              by_cases hy0 : y = 0
              · have i9 : ((y : Int) == 0) = true := by simp; omega
                have i4 : ¬ (0 : Int) < (k : Int) := by omega
                clear hF h9 h128 h00 h9b hy0
                go_wp2_with fail
                go_ret3
                exact ⟨by rw [HF.out]; rfl, Below.refl _ _⟩
              · have i9 : ((y : Int) == 0) = false := by simp; omega
                clear hF h9 h128 h00 h9b hy0
                go_wp2_with fail
                go_ret3
                exact ⟨by rw [HF.out]; rfl, Below.refl _ _⟩
    · have hke : k = l.length := by omega
      subst hke
      rw [List.drop_length] at hF
      have HF : Hid _ := hF.symm
      clear hc hF
      generalize 128 ^ l.length = q at *
      go_wp2_with fail
      go_ret3
      exact ⟨by rw [HF.out]; rfl, Below.refl _ _⟩
set_option maxRecDepth 100000 in
set_option maxHeartbeats 1000000 in
theorem refReadShort_none (a : Option Addr) (cap : Nat) (w : World) :
    Calls Try.prog 29 #[.slice a 0 cap] w fun e w' => e = .returned (.tuple #[.int .u64 0, .int .i64 0, .int .i64 10]) ∧ Below w.heap.size w w' := by
  go_enter Try.func29, Try.ntmps29
  go_wp2_with fail
  go_loop [7] (fun i => i = .int .i64 0) (fun _ => 0)
  case atStart => rfl
  case round =>
    obtain rfl := hrel
    go_wp2_with fail
    go_ret3
    exact ⟨rfl, Below.refl _ _⟩
theorem refReadShort_any (v : Value) (l : List UInt8) (w : World) (h : Reads w v l) :
    Calls Try.prog 29 #[v] w fun e w' => e = .returned (.tuple #[.int .u64 (rsF l 0 0).1, .int .i64 (rsF l 0 0).2.1, .int .i64 (rsF l 0 0).2.2]) ∧ Below w.heap.size w w' := by
  rcases h with ⟨rfl, a, cap, rfl, _⟩ | ⟨b, off, cap, rfl, h2, h3, h4, h5, h6⟩
  · exact refReadShort_none a cap w
  · exact refReadShort_some b off cap l h2 w h6
end Go.Proofs.Ytfgggfddehgigaa
