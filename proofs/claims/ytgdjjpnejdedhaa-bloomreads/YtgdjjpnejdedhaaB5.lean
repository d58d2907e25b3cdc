/- The contracts of bloom's New and Fit, and of a filter that no call made. -/
import Derived.Test.YtgdjjpnejdedhaaB4
import Derived.Laws.OwnMore
namespace Go.Proofs.Ytgdjjpnejdedhaa
open Go.RowKit

theorem add_any (v kv : Value) (h : Nat) (D key : List UInt8) (w : World) (base : Nat) (hbase : base ≤ w.heap.size) (hF : Fil w base v h D) (hR : Reads w kv key) :
    Calls Try.prog 13 #[v, kv] w fun e W' => e = .returned (.int .i64 0) ∧ Fil W' base v h (adF D (plc key (8 * D.length) h)) ∧ Below base w W' ∧ Kf v w W' := callsIn_wide.1 (add_in 5 (by decide) v kv h D key w base hbase hF hR)
theorem may_any (v kv : Value) (h : Nat) (D key : List UInt8) (w : World) (base : Nat) (hF : Fil w base v h D) (hR : Reads w kv key) :
    Calls Try.prog 15 #[v, kv] w fun e W' => e = .returned (.bool (myF D (plc key (8 * D.length) h))) ∧ Below w.heap.size w W' := callsIn_wide.1 (may_in 5 (by decide) v kv h D key w base hF hR)
theorem Fil.ptr {w : World} {base : Nat} {v : Value} {h : Nat} {D : List UInt8} (hf : Fil w base v h D) : ∃ B, v = .pointer (some ⟨B, 0, none⟩) := by obtain ⟨B, _, _, rfl, _⟩ := hf; exact ⟨B, rfl⟩
theorem Fil.facts {w : World} {base : Nat} {v : Value} {h : Nat} {D : List UInt8} (hf : Fil w base v h D) : 1 ≤ h ∧ h ≤ 8 ∧ 0 < D.length ∧ D.length ≤ 8192 := by obtain ⟨B, _, _, _, _, _, _, _, h1, h2, h3, h4⟩ := hf; exact ⟨h1, h2, h3, h4⟩
theorem mayHash_any (h : Int) (w : World) : Calls Try.prog 23 #[.int .i64 h] w fun e w' => e = .returned (.bool (decide (1 ≤ h ∧ h ≤ 8))) ∧ w' = w := by
  by_cases h1 : 1 ≤ h
  · by_cases h2 : h ≤ 8
    · have e : decide (1 ≤ h ∧ h ≤ 8) = true := by simp [h1, h2]
      rw [e]
      go_enter Try.func23, Try.ntmps23
      go_wp2_with fail
      go_ret
      exact ⟨rfl, rfl⟩
    · have e : decide (1 ≤ h ∧ h ≤ 8) = false := by simp [h2]
      rw [e]
      go_enter Try.func23, Try.ntmps23
      go_wp2_with fail
      go_ret
      exact ⟨rfl, rfl⟩
  · have e : decide (1 ≤ h ∧ h ≤ 8) = false := by simp [h1]
    rw [e]
    go_enter Try.func23, Try.ntmps23
    go_wp2_with fail
    go_ret
    exact ⟨rfl, rfl⟩
/-- What New and Read make: nothing, or a filter. -/
def newOk (d h : Int) : Prop := 8 ≤ d ∧ d ≤ 65536 ∧ d % 8 = 0 ∧ 1 ≤ h ∧ h ≤ 8
theorem fil_new {w : World} {base g cap : Nat} {D : List UInt8} (h : Nat) (ho : Own w base (.slice (some ⟨g, 0, none⟩) D.length cap) D) (h1 : 1 ≤ h) (h8 : h ≤ 8) (hd : 0 < D.length) (hd8 : D.length ≤ 8192) :
    Fil (w.alloc (.cells #[.int .i64 (h : Int), .slice (some ⟨g, 0, none⟩) D.length cap] 46)) base (.pointer (some ⟨w.heap.size, 0, none⟩)) h D := by
  have hlt := World.ownsRow.lt ho g rfl
  exact ⟨w.heap.size, g, cap, rfl, by omega, World.alloc_heap_new _ _, ho.alloc _, by omega, h1, h8, hd, hd8⟩
theorem fil_new' {w : World} {base g n cap : Nat} {D : List UInt8} (h : Nat) (ho : Own w base (.slice (some ⟨g, 0, none⟩) n cap) D) (hn : n = D.length) (h1 : 1 ≤ h) (h8 : h ≤ 8) (hd : 0 < n) (hd8 : n ≤ 8192) :
    Fil (w.alloc (.cells #[.int .i64 (h : Int), .slice (some ⟨g, 0, none⟩) n cap] 46)) base (.pointer (some ⟨w.heap.size, 0, none⟩)) h D := by
  subst hn; exact fil_new h ho h1 h8 hd hd8
theorem tupA {x y z u : Int} (h : x = y) : Ending.returned (.tuple #[.int .i64 x, .int .i64 z, .int .i64 u]) = .returned (.tuple #[.int .i64 y, .int .i64 z, .int .i64 u]) := by rw [h]
theorem new_ok (d h : Nat) (hok : newOk (8 * d) h) (w : World) : Calls Try.prog 11 #[.int .i64 (8 * (d : Int)), .int .i64 (h : Int)] w fun e w' => ∃ v, e = .returned (.tuple #[v, .int .i64 0]) ∧ Fil w' w.heap.size v h (List.replicate d 0) ∧ Below w.heap.size w w' := by
  obtain ⟨h1, h2, h3, h4, h5⟩ := hok
  have hh := mayHash_any h
  have e : decide (1 ≤ (h : Int) ∧ (h : Int) ≤ 8) = true := by simp; omega
  rw [e] at hh
  have HH : Hid _ := hh
  clear hh e
  have i1 : ¬ 8 * (d : Int) < 8 := by omega
  have i2 : ¬ (65536 : Int) < 8 * (d : Int) := by omega
  have hq : (8 * (d : Int)).tdiv 8 = (d : Int) := by rw [Int.mul_tdiv_cancel_left _ (by decide)]
  have hr : (8 * (d : Int)).tmod 8 = 0 := by rw [Int.mul_tmod_right]
  obtain ⟨i0, hi, hz0, hz1, hz2⟩ := info_parts info5
  obtain ⟨w2, hrn, hown2, hg2⟩ := run_make_full (P := Try.prog) w w.heap.size 33 5 i0 (.int .u8 0) 1 Try.underlying33 hi hz0 hz1 .i64 .i64 d (by rw [hz2]; omega) (by unfold maxLen; omega) (Nat.le_refl _)
  have HB2 : Hid (Below w.heap.size w w2) := (Below.refl _ _).grown hg2 (Nat.le_refl _) (fun k hk => by cases hk)
  have HO2 : Hid (Own w2 w.heap.size (.slice (some ⟨w.heap.size, 0, none⟩) d d) (List.replicate d 0)) := by
    have e0 : (Value.int .u8 0).cells = #[.int .u8 0] := rfl
    rw [e0, toList_madeCells_one] at hown2
    unfold Hid Own; simpa [bc] using hown2
  clear hown2 hg2
  go_enter Try.func11, Try.ntmps11
  go_wp2_with fail
  refine (HH.out _).mono ?_
  rintro e w' ⟨rfl, hw⟩
  subst w'
  go_wp2_with fail
  go_ret2
  have hs2 := HB2.out.size
  exact ⟨_, rfl, fil_new' h HO2.out (by simp) (by omega) (by omega) (by omega) (by omega), HB2.out.alloc hs2 _⟩
theorem new_no (d h : Int) (hno : ¬ newOk d h) (w : World) : Calls Try.prog 11 #[.int .i64 d, .int .i64 h] w fun e w' => e = .returned (.tuple #[.pointer none, .int .i64 1]) ∧ w' = w := by
  have hh := mayHash_any h
  by_cases h1 : d < 8
  · go_enter Try.func11, Try.ntmps11
    go_wp2_with fail
    go_ret2
    exact ⟨rfl, rfl⟩
  · by_cases h2 : 65536 < d
    · go_enter Try.func11, Try.ntmps11
      go_wp2_with fail
      go_ret2
      exact ⟨rfl, rfl⟩
    · have et : d.tmod 8 = d % 8 := Int.tmod_eq_emod_of_nonneg (by omega)
      by_cases h3 : d % 8 = 0
      · have e : decide (1 ≤ h ∧ h ≤ 8) = false := by
          simp only [decide_eq_false_iff_not]
          intro hx
          exact hno ⟨by omega, by omega, h3, hx.1, hx.2⟩
        rw [e] at hh
        have HH : Hid _ := hh
        clear hh e hno
        have h4 : d.tmod 8 = 0 := by omega
        go_enter Try.func11, Try.ntmps11
        go_wp2_with fail
        refine (HH.out _).mono ?_
        rintro e w' ⟨rfl, hw⟩
        subst w'
        go_wp2_with fail
        go_ret2
        exact ⟨rfl, rfl⟩
      · have h4 : ¬ d.tmod 8 = 0 := by omega
        clear hno hh et
        go_enter Try.func11, Try.ntmps11
        go_wp2_with fail
        go_ret2
        exact ⟨rfl, rfl⟩
theorem new_any (d h : Int) (w : World) : Calls Try.prog 11 #[.int .i64 d, .int .i64 h] w fun e w' =>
    (∃ v, e = .returned (.tuple #[v, .int .i64 0]) ∧ newOk d h ∧ Fil w' w.heap.size v h.toNat (List.replicate (d / 8).toNat 0) ∧ Below w.heap.size w w') ∨ (e = .returned (.tuple #[.pointer none, .int .i64 1]) ∧ ¬ newOk d h ∧ w' = w) := by
  by_cases hok : newOk d h
  · obtain ⟨h1, h2, h3, h4, h5⟩ := id hok
    have hd : d = 8 * ((d / 8).toNat : Int) := by omega
    have hhn : h = (h.toNat : Int) := by omega
    have := new_ok (d / 8).toNat h.toNat (by rw [← hd, ← hhn]; exact hok) w
    rw [← hd, ← hhn] at this
    refine this.mono ?_
    rintro e w' ⟨v, rfl, hf, hb⟩
    exact .inl ⟨v, rfl, hok, hf, hb⟩
  · refine (new_no d h hok w).mono ?_
    rintro e w' ⟨rfl, rfl⟩
    exact .inr ⟨rfl, hok, rfl⟩
/-- How many digits are good. -/
def fitF (k : Int) : Int × Int × Int := if k < 0 then (0, 0, 1) else if 6553 < k then (65536, 6, 0) else (8 * max ((10 * k + 7) / 8) 1, 6, 0)
theorem fit_any (k : Int) (w : World) : Calls Try.prog 21 #[.int .i64 k] w fun e w' => e = .returned (.tuple #[.int .i64 (fitF k).1, .int .i64 (fitF k).2.1, .int .i64 (fitF k).2.2]) ∧ w' = w := by
  unfold fitF
  by_cases h1 : k < 0
  · rw [if_pos h1]
    go_enter Try.func21, Try.ntmps21
    go_wp2_with fail
    go_ret3
    exact ⟨rfl, rfl⟩
  · rw [if_neg h1]
    by_cases h2 : 6553 < k
    · rw [if_pos h2]
      go_enter Try.func21, Try.ntmps21
      go_wp2_with fail
      go_ret3
      exact ⟨rfl, rfl⟩
    · rw [if_neg h2]
      have et : (10 * k + 7).tdiv 8 = (10 * k + 7) / 8 := Int.tdiv_eq_ediv_of_nonneg (by omega)
      go_enter Try.func21, Try.ntmps21
      go_wp2_with fail
      all_goals (go_ret3; exact ⟨tupA (by omega), rfl⟩)
end Go.Proofs.Ytgdjjpnejdedhaa
