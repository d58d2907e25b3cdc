/- X1, joined. -/
import Derived.Test.YtoenijflijfogaaGreatRC13
import Derived.Test.YtoenijflijfogaaGreatRC27
/- The contract of the reference's Digits. -/
namespace Go.Proofs.YtoenijflijfogaaGreat
open Go.RowKit

/-- A digit to the base 256. -/
def dig (n : Int) (i : Nat) : Int := n / 256 ^ i % 256
/-- An array of sixteen numbers in memory. -/
def DArr (w : World) (b : Nat) (f : Nat → Int) : Prop := b < w.heap.size ∧ (∀ j, j < 16 → w.cell? ⟨b, j, none⟩ = some (.int .i64 (f j))) ∧ ∀ j, w.frozen? ⟨b, j, none⟩ = false
theorem DArr.set {w : World} {b : Nat} {f : Nat → Int} (h : DArr w b f) (i : Nat) (hi : i < 16) (z : Int) : DArr (w.setCell ⟨b, i, none⟩ (.int .i64 z)) b (fun j => if j = i then z else f j) := by
  obtain ⟨h1, h2, h3⟩ := h
  refine ⟨by simp [World.setCell]; exact h1, fun j hj => ?_, fun j => by rw [World.frozen?_setCell]; exact h3 j⟩
  by_cases e : j = i
  · subst e; simp only [if_true]; exact World.cell?_setCell_same _ _ _ (h2 j hj)
  · rw [World.cell?_setCell_other (h := by intro hh; injection hh with _ h2; omega)]
    simp only [if_neg e]; exact h2 j hj
theorem DArr.far {w : World} {b b' i : Nat} {u : Value} {f : Nat → Int} (h : DArr w b f) (hne : b' ≠ b) : DArr (w.setCell ⟨b', i, none⟩ u) b f := by
  obtain ⟨h1, h2, h3⟩ := h
  refine ⟨by simp [World.setCell]; exact h1, fun j hj => ?_, fun j => by rw [World.frozen?_setCell]; exact h3 j⟩
  rw [World.cell?_setCell_other (h := by intro hh; injection hh with e1 _; exact hne e1)]
  exact h2 j hj
theorem DArr.drew {w : World} {b : Nat} {f : Nat → Int} (h : DArr w b f) : DArr w.drew b f := h
theorem DArr.congr {w : World} {b : Nat} {f g : Nat → Int} (h : DArr w b f) (e : ∀ j, j < 16 → f j = g j) : DArr w b g := ⟨h.1, fun j hj => by rw [← e j hj]; exact h.2.1 j hj, h.2.2⟩
theorem DArr.below {w w' : World} {b : Nat} {f : Nat → Int} (h : DArr w b f) (hb : Below w.heap.size w w') : DArr w' b f := by
  have := hb.size
  exact ⟨by have := h.1; omega, fun j hj => (hb.cell (p := ⟨b, j, none⟩) h.1).trans (h.2.1 j hj), fun j => (hb.frozen (p := ⟨b, j, none⟩) h.1).trans (h.2.2 j)⟩
/-- The digits so far. -/
def dgF (L U : Int) (k j : Nat) : Int := if j < 8 then (if j < k then dig L j else 0) else (if j - 8 < k then dig U (j - 8) else 0)

set_option maxRecDepth 100000 in
set_option maxHeartbeats 2000000 in
theorem digits_walk (H L U : Int) (l1 : 0 ≤ L) (l2 : L < 18446744073709551616) (hU : IntKind.u64.wrap H = U) (u1 : 0 ≤ U) (u2 : U < 18446744073709551616) (w : World) :
    Calls Tryz.prog 72 #[.agg #[.int .i64 H, .int .u64 L]] w fun e w' => e = .returned (.agg #[.int .i64 (dig L 0), .int .i64 (dig L 1), .int .i64 (dig L 2), .int .i64 (dig L 3), .int .i64 (dig L 4), .int .i64 (dig L 5), .int .i64 (dig L 6), .int .i64 (dig L 7), .int .i64 (dig U 0), .int .i64 (dig U 1), .int .i64 (dig U 2), .int .i64 (dig U 3), .int .i64 (dig U 4), .int .i64 (dig U 5), .int .i64 (dig U 6), .int .i64 (dig U 7)]) ∧ Below w.heap.size w w' := by
  have HB0 : Hid (∀ o1 o2 o3, Below w.heap.size w (((w.alloc o1).alloc o2).alloc o3)) := fun o1 o2 o3 => (((Below.refl _ _).alloc (by simp) _).alloc (by simp) _).alloc (by simp; omega) _
  go_enter Tryz.func72, Tryz.ntmps72
  go_wp2_with fail
  refine wp_region_noPanic ?_
  refine wp_region_held_drew (S := (fun w' => w'.cell? ⟨w.heap.size, 0, none⟩ = some (.int .i64 H) ∧ w'.cell? ⟨w.heap.size, 1, none⟩ = some (.int .u64 L))) (by kernel_rfl) ?_ (fun hHeld => ?_)
  · exact ⟨by simp [go_sem, World.cell?_alloc_past], by simp [go_sem, World.cell?_alloc_past]⟩
  refine wpAnyH_take (i := 0) (v := .pointer (some ⟨w.heap.size, 1, none⟩)) rfl (by kernel_rfl) (by kernel_rfl) (by kernel_rfl) (fun _ _ _ h => h) (Or.inl ⟨by rfl, ?_⟩) (by assumption) ?_
  · (intro w1 hSw; (try dsimp only at hSw); go_simp)
  simp only [List.getElem_toArray, List.getElem_cons_zero, Act.put, List.setIfInBounds_toArray, List.set_cons_zero, List.set_cons_succ]
  refine wpAnyH_take (i := 1) (v := .int .u64 L) rfl (by kernel_rfl) (by kernel_rfl) (by kernel_rfl) (fun _ _ _ h => h) (Or.inl ⟨by rfl, ?_⟩) (by assumption) ?_
  · (intro w1 hSw; (try dsimp only at hSw); go_simp)
  simp only [List.getElem_toArray, List.getElem_cons_succ, List.getElem_cons_zero, Act.put, List.setIfInBounds_toArray, List.set_cons_zero, List.set_cons_succ]
  refine wpAnyH_take (i := 2) (v := .pointer (some ⟨w.heap.size, 0, none⟩)) rfl (by kernel_rfl) (by kernel_rfl) (by kernel_rfl) (fun _ _ _ h => h) (Or.inl ⟨by rfl, ?_⟩) (by assumption) ?_
  · (intro w1 hSw; (try dsimp only at hSw); go_simp)
  simp only [List.getElem_toArray, List.getElem_cons_succ, List.getElem_cons_zero, Act.put, List.setIfInBounds_toArray, List.set_cons_zero, List.set_cons_succ]
  refine wpAnyH_take (i := 3) (v := .int .i64 H) rfl (by kernel_rfl) (by kernel_rfl) (by kernel_rfl) (fun _ _ _ h => h) (Or.inl ⟨by rfl, ?_⟩) (by assumption) ?_
  · (intro w1 hSw; (try dsimp only at hSw); go_simp)
  simp only [List.getElem_toArray, List.getElem_cons_succ, List.getElem_cons_zero, Act.put, List.setIfInBounds_toArray, List.set_cons_zero, List.set_cons_succ]
  refine wpAnyH_take (i := 4) (v := .int .u64 U) rfl (by kernel_rfl) (by kernel_rfl) (by kernel_rfl) (fun _ _ _ h => h) (Or.inl ⟨by rfl, ?_⟩) (by assumption) ?_
  · (intro w1 hSw; (try dsimp only at hSw); go_simp)
  simp only [List.getElem_toArray, List.getElem_cons_succ, List.getElem_cons_zero, Act.put, List.setIfInBounds_toArray, List.set_cons_zero, List.set_cons_succ]
  refine wpAnyH_take (i := 5) (v := .int .u64 L) rfl (by kernel_rfl) (by kernel_rfl) (by kernel_rfl) (fun _ _ _ h => h) (Or.inl ⟨by rfl, ?_⟩) (by assumption) ?_
  · (intro w1 hSw; (try dsimp only at hSw); go_simp)
  simp only [List.getElem_toArray, List.getElem_cons_succ, List.getElem_cons_zero, Act.put, List.setIfInBounds_toArray, List.set_cons_zero, List.set_cons_succ]
  refine wpAnyH_take (i := 6) (v := .int .u64 U) rfl (by kernel_rfl) (by kernel_rfl) (by kernel_rfl) (fun _ _ _ h => h) (Or.inl ⟨by rfl, ?_⟩) (by assumption) ?_
  · (intro w1 hSw; (try dsimp only at hSw); go_simp)
  simp only [List.getElem_toArray, List.getElem_cons_succ, List.getElem_cons_zero, Act.put, List.setIfInBounds_toArray, List.set_cons_zero, List.set_cons_succ]
  refine wpAnyH_done (by kernel_rfl) ?_ _
  refine NoPanic.normal ?_
  clear hHeld hU
  go_wp2_with fail
  go_loopw [4, 5, 6] (fun lo hi i wr => ∃ k : Nat, k ≤ 8 ∧ i = .int .i64 (k : Int) ∧ lo = .int .u64 (L / 256 ^ k) ∧ hi = .int .u64 (U / 256 ^ k) ∧ DArr wr (w.heap.size + 1 + 1) (dgF L U k) ∧ DArr wr (w.heap.size + 1) (fun _ => 0) ∧ Below w.heap.size w wr) (fun _ _ i _ => 8 - (intOf i).toNat)
  case atStart =>
    refine ⟨0, by omega, rfl, by simp, by simp, ⟨by simp, ?_, ?_⟩, ⟨by simp, ?_, ?_⟩, (HB0.out _ _ _).drew⟩
    · intro j hj
      have e : dgF L U 0 j = 0 := by unfold dgF; split <;> simp
      rw [e]
      have hjj : j = 0 ∨ j = 1 ∨ j = 2 ∨ j = 3 ∨ j = 4 ∨ j = 5 ∨ j = 6 ∨ j = 7 ∨ j = 8 ∨ j = 9 ∨ j = 10 ∨ j = 11 ∨ j = 12 ∨ j = 13 ∨ j = 14 ∨ j = 15 := by omega
      rcases hjj with rfl | rfl | rfl | rfl | rfl | rfl | rfl | rfl | rfl | rfl | rfl | rfl | rfl | rfl | rfl | rfl <;> simp [go_sem]
    · intro j; simp [go_sem]
    · intro j hj
      have hjj : j = 0 ∨ j = 1 ∨ j = 2 ∨ j = 3 ∨ j = 4 ∨ j = 5 ∨ j = 6 ∨ j = 7 ∨ j = 8 ∨ j = 9 ∨ j = 10 ∨ j = 11 ∨ j = 12 ∨ j = 13 ∨ j = 14 ∨ j = 15 := by omega
      rcases hjj with rfl | rfl | rfl | rfl | rfl | rfl | rfl | rfl | rfl | rfl | rfl | rfl | rfl | rfl | rfl | rfl <;> simp [go_sem, World.cell?_alloc_past]
    · intro j; simp [go_sem]
  case round =>
    obtain ⟨k, hk, rfl, rfl, rfl, hd, hz, hbr⟩ := hrel
    by_cases hlt : k < 8
    · have c1 := hd.2.1 k (by omega)
      have c2 := hd.2.1 (8 + k) (by omega)
      have f1 := hd.2.2 k
      have f2 := hd.2.2 (8 + k)
      have pk : (0 : Int) < 256 ^ k := Int.pow_pos (by omega)
      have a1 : 0 ≤ L / 256 ^ k := Int.ediv_nonneg l1 (by omega)
      have a2 : L / 256 ^ k ≤ L := Int.ediv_le_self _ l1
      have b1 : 0 ≤ U / 256 ^ k := Int.ediv_nonneg u1 (by omega)
      have b2 : U / 256 ^ k ≤ U := Int.ediv_le_self _ u1
      have HA : Hid (L / 256 ^ k / 256 = L / 256 ^ (k + 1)) := by unfold Hid; rw [Int.pow_succ, Int.ediv_ediv_of_nonneg (by omega)]
      have HBb : Hid (U / 256 ^ k / 256 = U / 256 ^ (k + 1)) := by unfold Hid; rw [Int.pow_succ, Int.ediv_ediv_of_nonneg (by omega)]
      have HD : Hid (∀ wz, wz = (wr.setCell ⟨w.heap.size + 1 + 1, k, none⟩ (.int .i64 (L / 256 ^ k % 256))).setCell ⟨w.heap.size + 1 + 1, 8 + k, none⟩ (.int .i64 (U / 256 ^ k % 256)) → DArr wz (w.heap.size + 1 + 1) (dgF L U (k + 1)) ∧ DArr wz (w.heap.size + 1) (fun _ => 0) ∧ Below w.heap.size w wz) := by
        rintro wz rfl
        refine ⟨((hd.set k (by omega) _).set (8 + k) (by omega) _).congr ?_, (hz.far (by omega)).far (by omega), (hbr.setCell (by show w.heap.size ≤ w.heap.size + 1 + 1; omega) _).setCell (by show w.heap.size ≤ w.heap.size + 1 + 1; omega) _⟩
        intro j hj
        unfold dgF
        by_cases e1 : j = 8 + k
        · subst e1
          rw [if_pos rfl, if_neg (by omega), if_pos (by omega)]
          have e : 8 + k - 8 = k := by omega
          rw [e]; rfl
        · rw [if_neg e1]
          by_cases e2 : j = k
          · subst e2
            rw [if_pos rfl, if_pos (by omega), if_pos (by omega)]; rfl
          · rw [if_neg e2]
            by_cases e3 : j < 8
            · rw [if_pos e3, if_pos e3]
              by_cases e4 : j < k
              · rw [if_pos e4, if_pos (by omega)]
              · rw [if_neg e4, if_neg (by omega)]
            · rw [if_neg e3, if_neg e3]
              by_cases e4 : j - 8 < k
              · rw [if_pos e4, if_pos (by omega)]
              · rw [if_neg e4, if_neg (by omega)]
      generalize hA : L / 256 ^ k = A at *
      generalize hB : U / 256 ^ k = B at *
      have t1 : Int.tmod A 256 = A % 256 := Int.tmod_eq_emod_of_nonneg a1
      have t2 : Int.tmod B 256 = B % 256 := Int.tmod_eq_emod_of_nonneg b1
      have t3 : Int.tdiv A 256 = A / 256 := Int.tdiv_eq_ediv_of_nonneg a1
      have t4 : Int.tdiv B 256 = B / 256 := Int.tdiv_eq_ediv_of_nonneg b1
      have a3 : A < 18446744073709551616 := by omega
      have b3 : B < 18446744073709551616 := by omega
      have hsz := hbr.size
      clear hd hz hbr hA hB pk a2 b2
      go_wp2_with fail
      go_roundw
      case rel =>
        obtain ⟨z1, z2, z3⟩ := HD.out _ rfl
        exact ⟨k + 1, by omega, by go_num, by rw [HA.out], by rw [HBb.out], z1, z2, z3⟩
      case measure => simp [intOf]; omega
    · have hke : k = 8 := by omega
      subst hke
      have e : ∀ j, j < 16 → dgF L U 8 j = if j < 8 then dig L j else dig U (j - 8) := by
        intro j hj; unfold dgF
        by_cases h : j < 8
        · rw [if_pos h, if_pos h, if_pos h]
        · rw [if_neg h, if_neg h, if_pos (by omega)]
      have hd' := hd.congr e
      have c0 : wr.cell? ⟨w.heap.size + 1 + 1, 0, none⟩ = some (.int .i64 (dig L 0)) := hd'.2.1 0 (by omega)
      have c1 : wr.cell? ⟨w.heap.size + 1 + 1, 1, none⟩ = some (.int .i64 (dig L 1)) := hd'.2.1 1 (by omega)
      have c2 : wr.cell? ⟨w.heap.size + 1 + 1, 2, none⟩ = some (.int .i64 (dig L 2)) := hd'.2.1 2 (by omega)
      have c3 : wr.cell? ⟨w.heap.size + 1 + 1, 3, none⟩ = some (.int .i64 (dig L 3)) := hd'.2.1 3 (by omega)
      have c4 : wr.cell? ⟨w.heap.size + 1 + 1, 4, none⟩ = some (.int .i64 (dig L 4)) := hd'.2.1 4 (by omega)
      have c5 : wr.cell? ⟨w.heap.size + 1 + 1, 5, none⟩ = some (.int .i64 (dig L 5)) := hd'.2.1 5 (by omega)
      have c6 : wr.cell? ⟨w.heap.size + 1 + 1, 6, none⟩ = some (.int .i64 (dig L 6)) := hd'.2.1 6 (by omega)
      have c7 : wr.cell? ⟨w.heap.size + 1 + 1, 7, none⟩ = some (.int .i64 (dig L 7)) := hd'.2.1 7 (by omega)
      have c8 : wr.cell? ⟨w.heap.size + 1 + 1, 8, none⟩ = some (.int .i64 (dig U 0)) := hd'.2.1 8 (by omega)
      have c9 : wr.cell? ⟨w.heap.size + 1 + 1, 9, none⟩ = some (.int .i64 (dig U 1)) := hd'.2.1 9 (by omega)
      have c10 : wr.cell? ⟨w.heap.size + 1 + 1, 10, none⟩ = some (.int .i64 (dig U 2)) := hd'.2.1 10 (by omega)
      have c11 : wr.cell? ⟨w.heap.size + 1 + 1, 11, none⟩ = some (.int .i64 (dig U 3)) := hd'.2.1 11 (by omega)
      have c12 : wr.cell? ⟨w.heap.size + 1 + 1, 12, none⟩ = some (.int .i64 (dig U 4)) := hd'.2.1 12 (by omega)
      have c13 : wr.cell? ⟨w.heap.size + 1 + 1, 13, none⟩ = some (.int .i64 (dig U 5)) := hd'.2.1 13 (by omega)
      have c14 : wr.cell? ⟨w.heap.size + 1 + 1, 14, none⟩ = some (.int .i64 (dig U 6)) := hd'.2.1 14 (by omega)
      have c15 : wr.cell? ⟨w.heap.size + 1 + 1, 15, none⟩ = some (.int .i64 (dig U 7)) := hd'.2.1 15 (by omega)
      have z0 : wr.cell? ⟨w.heap.size + 1, 0, none⟩ = some (.int .i64 0) := hz.2.1 0 (by omega)
      have z1 : wr.cell? ⟨w.heap.size + 1, 1, none⟩ = some (.int .i64 0) := hz.2.1 1 (by omega)
      have z2 : wr.cell? ⟨w.heap.size + 1, 2, none⟩ = some (.int .i64 0) := hz.2.1 2 (by omega)
      have z3 : wr.cell? ⟨w.heap.size + 1, 3, none⟩ = some (.int .i64 0) := hz.2.1 3 (by omega)
      have z4 : wr.cell? ⟨w.heap.size + 1, 4, none⟩ = some (.int .i64 0) := hz.2.1 4 (by omega)
      have z5 : wr.cell? ⟨w.heap.size + 1, 5, none⟩ = some (.int .i64 0) := hz.2.1 5 (by omega)
      have z6 : wr.cell? ⟨w.heap.size + 1, 6, none⟩ = some (.int .i64 0) := hz.2.1 6 (by omega)
      have z7 : wr.cell? ⟨w.heap.size + 1, 7, none⟩ = some (.int .i64 0) := hz.2.1 7 (by omega)
      have z8 : wr.cell? ⟨w.heap.size + 1, 8, none⟩ = some (.int .i64 0) := hz.2.1 8 (by omega)
      have z9 : wr.cell? ⟨w.heap.size + 1, 9, none⟩ = some (.int .i64 0) := hz.2.1 9 (by omega)
      have z10 : wr.cell? ⟨w.heap.size + 1, 10, none⟩ = some (.int .i64 0) := hz.2.1 10 (by omega)
      have z11 : wr.cell? ⟨w.heap.size + 1, 11, none⟩ = some (.int .i64 0) := hz.2.1 11 (by omega)
      have z12 : wr.cell? ⟨w.heap.size + 1, 12, none⟩ = some (.int .i64 0) := hz.2.1 12 (by omega)
      have z13 : wr.cell? ⟨w.heap.size + 1, 13, none⟩ = some (.int .i64 0) := hz.2.1 13 (by omega)
      have z14 : wr.cell? ⟨w.heap.size + 1, 14, none⟩ = some (.int .i64 0) := hz.2.1 14 (by omega)
      have z15 : wr.cell? ⟨w.heap.size + 1, 15, none⟩ = some (.int .i64 0) := hz.2.1 15 (by omega)
      have f0 := hz.2.2 0
      have f1 := hz.2.2 1
      have f2 := hz.2.2 2
      have f3 := hz.2.2 3
      have f4 := hz.2.2 4
      have f5 := hz.2.2 5
      have f6 := hz.2.2 6
      have f7 := hz.2.2 7
      have f8 := hz.2.2 8
      have f9 := hz.2.2 9
      have f10 := hz.2.2 10
      have f11 := hz.2.2 11
      have f12 := hz.2.2 12
      have f13 := hz.2.2 13
      have f14 := hz.2.2 14
      have f15 := hz.2.2 15
      have HB : Hid (Below w.heap.size w wr) := hbr
      have hsz := hbr.size
      have HW : Hid (∀ wz, wz = ((((((((((((((((wr.setCell ⟨w.heap.size + 1, 0, none⟩ (.int .i64 (dig L 0))).setCell ⟨w.heap.size + 1, 1, none⟩ (.int .i64 (dig L 1))).setCell ⟨w.heap.size + 1, 2, none⟩ (.int .i64 (dig L 2))).setCell ⟨w.heap.size + 1, 3, none⟩ (.int .i64 (dig L 3))).setCell ⟨w.heap.size + 1, 4, none⟩ (.int .i64 (dig L 4))).setCell ⟨w.heap.size + 1, 5, none⟩ (.int .i64 (dig L 5))).setCell ⟨w.heap.size + 1, 6, none⟩ (.int .i64 (dig L 6))).setCell ⟨w.heap.size + 1, 7, none⟩ (.int .i64 (dig L 7))).setCell ⟨w.heap.size + 1, 8, none⟩ (.int .i64 (dig U 0))).setCell ⟨w.heap.size + 1, 9, none⟩ (.int .i64 (dig U 1))).setCell ⟨w.heap.size + 1, 10, none⟩ (.int .i64 (dig U 2))).setCell ⟨w.heap.size + 1, 11, none⟩ (.int .i64 (dig U 3))).setCell ⟨w.heap.size + 1, 12, none⟩ (.int .i64 (dig U 4))).setCell ⟨w.heap.size + 1, 13, none⟩ (.int .i64 (dig U 5))).setCell ⟨w.heap.size + 1, 14, none⟩ (.int .i64 (dig U 6))).setCell ⟨w.heap.size + 1, 15, none⟩ (.int .i64 (dig U 7))) → DArr wz (w.heap.size + 1) (fun j => if j < 8 then dig L j else dig U (j - 8)) ∧ Below w.heap.size w wz) := by
        rintro wz rfl
        refine ⟨((((((((((((((((hz.set 0 (by omega) (dig L 0)).set 1 (by omega) (dig L 1)).set 2 (by omega) (dig L 2)).set 3 (by omega) (dig L 3)).set 4 (by omega) (dig L 4)).set 5 (by omega) (dig L 5)).set 6 (by omega) (dig L 6)).set 7 (by omega) (dig L 7)).set 8 (by omega) (dig U 0)).set 9 (by omega) (dig U 1)).set 10 (by omega) (dig U 2)).set 11 (by omega) (dig U 3)).set 12 (by omega) (dig U 4)).set 13 (by omega) (dig U 5)).set 14 (by omega) (dig U 6)).set 15 (by omega) (dig U 7)).congr ?_, ((((((((((((((((hbr.setCell (p := ⟨w.heap.size + 1, 0, none⟩) (by show w.heap.size ≤ w.heap.size + 1; omega) _).setCell (p := ⟨w.heap.size + 1, 1, none⟩) (by show w.heap.size ≤ w.heap.size + 1; omega) _).setCell (p := ⟨w.heap.size + 1, 2, none⟩) (by show w.heap.size ≤ w.heap.size + 1; omega) _).setCell (p := ⟨w.heap.size + 1, 3, none⟩) (by show w.heap.size ≤ w.heap.size + 1; omega) _).setCell (p := ⟨w.heap.size + 1, 4, none⟩) (by show w.heap.size ≤ w.heap.size + 1; omega) _).setCell (p := ⟨w.heap.size + 1, 5, none⟩) (by show w.heap.size ≤ w.heap.size + 1; omega) _).setCell (p := ⟨w.heap.size + 1, 6, none⟩) (by show w.heap.size ≤ w.heap.size + 1; omega) _).setCell (p := ⟨w.heap.size + 1, 7, none⟩) (by show w.heap.size ≤ w.heap.size + 1; omega) _).setCell (p := ⟨w.heap.size + 1, 8, none⟩) (by show w.heap.size ≤ w.heap.size + 1; omega) _).setCell (p := ⟨w.heap.size + 1, 9, none⟩) (by show w.heap.size ≤ w.heap.size + 1; omega) _).setCell (p := ⟨w.heap.size + 1, 10, none⟩) (by show w.heap.size ≤ w.heap.size + 1; omega) _).setCell (p := ⟨w.heap.size + 1, 11, none⟩) (by show w.heap.size ≤ w.heap.size + 1; omega) _).setCell (p := ⟨w.heap.size + 1, 12, none⟩) (by show w.heap.size ≤ w.heap.size + 1; omega) _).setCell (p := ⟨w.heap.size + 1, 13, none⟩) (by show w.heap.size ≤ w.heap.size + 1; omega) _).setCell (p := ⟨w.heap.size + 1, 14, none⟩) (by show w.heap.size ≤ w.heap.size + 1; omega) _).setCell (p := ⟨w.heap.size + 1, 15, none⟩) (by show w.heap.size ≤ w.heap.size + 1; omega) _)⟩
        intro j hj
        have hjj : j = 0 ∨ j = 1 ∨ j = 2 ∨ j = 3 ∨ j = 4 ∨ j = 5 ∨ j = 6 ∨ j = 7 ∨ j = 8 ∨ j = 9 ∨ j = 10 ∨ j = 11 ∨ j = 12 ∨ j = 13 ∨ j = 14 ∨ j = 15 := by omega
        rcases hjj with rfl | rfl | rfl | rfl | rfl | rfl | rfl | rfl | rfl | rfl | rfl | rfl | rfl | rfl | rfl | rfl <;> rfl
      clear hd hd' hz hbr e l1 l2 u1 u2
      go_wp2_with fail
      obtain ⟨wz, hwz⟩ : ∃ wz, wz = ((((((((((((((((wr.setCell ⟨w.heap.size + 1, 0, none⟩ (.int .i64 (dig L 0))).setCell ⟨w.heap.size + 1, 1, none⟩ (.int .i64 (dig L 1))).setCell ⟨w.heap.size + 1, 2, none⟩ (.int .i64 (dig L 2))).setCell ⟨w.heap.size + 1, 3, none⟩ (.int .i64 (dig L 3))).setCell ⟨w.heap.size + 1, 4, none⟩ (.int .i64 (dig L 4))).setCell ⟨w.heap.size + 1, 5, none⟩ (.int .i64 (dig L 5))).setCell ⟨w.heap.size + 1, 6, none⟩ (.int .i64 (dig L 6))).setCell ⟨w.heap.size + 1, 7, none⟩ (.int .i64 (dig L 7))).setCell ⟨w.heap.size + 1, 8, none⟩ (.int .i64 (dig U 0))).setCell ⟨w.heap.size + 1, 9, none⟩ (.int .i64 (dig U 1))).setCell ⟨w.heap.size + 1, 10, none⟩ (.int .i64 (dig U 2))).setCell ⟨w.heap.size + 1, 11, none⟩ (.int .i64 (dig U 3))).setCell ⟨w.heap.size + 1, 12, none⟩ (.int .i64 (dig U 4))).setCell ⟨w.heap.size + 1, 13, none⟩ (.int .i64 (dig U 5))).setCell ⟨w.heap.size + 1, 14, none⟩ (.int .i64 (dig U 6))).setCell ⟨w.heap.size + 1, 15, none⟩ (.int .i64 (dig U 7))) := ⟨_, rfl⟩
      rw [← hwz]
      obtain ⟨y, yb⟩ := HW.out wz hwz
      have y0 : wz.cell? ⟨w.heap.size + 1, 0, none⟩ = some (.int .i64 (dig L 0)) := y.2.1 0 (by omega)
      have y1 : wz.cell? ⟨w.heap.size + 1, 1, none⟩ = some (.int .i64 (dig L 1)) := y.2.1 1 (by omega)
      have y2 : wz.cell? ⟨w.heap.size + 1, 2, none⟩ = some (.int .i64 (dig L 2)) := y.2.1 2 (by omega)
      have y3 : wz.cell? ⟨w.heap.size + 1, 3, none⟩ = some (.int .i64 (dig L 3)) := y.2.1 3 (by omega)
      have y4 : wz.cell? ⟨w.heap.size + 1, 4, none⟩ = some (.int .i64 (dig L 4)) := y.2.1 4 (by omega)
      have y5 : wz.cell? ⟨w.heap.size + 1, 5, none⟩ = some (.int .i64 (dig L 5)) := y.2.1 5 (by omega)
      have y6 : wz.cell? ⟨w.heap.size + 1, 6, none⟩ = some (.int .i64 (dig L 6)) := y.2.1 6 (by omega)
      have y7 : wz.cell? ⟨w.heap.size + 1, 7, none⟩ = some (.int .i64 (dig L 7)) := y.2.1 7 (by omega)
      have y8 : wz.cell? ⟨w.heap.size + 1, 8, none⟩ = some (.int .i64 (dig U 0)) := y.2.1 8 (by omega)
      have y9 : wz.cell? ⟨w.heap.size + 1, 9, none⟩ = some (.int .i64 (dig U 1)) := y.2.1 9 (by omega)
      have y10 : wz.cell? ⟨w.heap.size + 1, 10, none⟩ = some (.int .i64 (dig U 2)) := y.2.1 10 (by omega)
      have y11 : wz.cell? ⟨w.heap.size + 1, 11, none⟩ = some (.int .i64 (dig U 3)) := y.2.1 11 (by omega)
      have y12 : wz.cell? ⟨w.heap.size + 1, 12, none⟩ = some (.int .i64 (dig U 4)) := y.2.1 12 (by omega)
      have y13 : wz.cell? ⟨w.heap.size + 1, 13, none⟩ = some (.int .i64 (dig U 5)) := y.2.1 13 (by omega)
      have y14 : wz.cell? ⟨w.heap.size + 1, 14, none⟩ = some (.int .i64 (dig U 6)) := y.2.1 14 (by omega)
      have y15 : wz.cell? ⟨w.heap.size + 1, 15, none⟩ = some (.int .i64 (dig U 7)) := y.2.1 15 (by omega)
      clear hwz HW
      exact bodyPost_ret (v := .agg #[.int .i64 (dig L 0), .int .i64 (dig L 1), .int .i64 (dig L 2), .int .i64 (dig L 3), .int .i64 (dig L 4), .int .i64 (dig L 5), .int .i64 (dig L 6), .int .i64 (dig L 7), .int .i64 (dig U 0), .int .i64 (dig U 1), .int .i64 (dig U 2), .int .i64 (dig U 3), .int .i64 (dig U 4), .int .i64 (dig U 5), .int .i64 (dig U 6), .int .i64 (dig U 7)]) (by simp [results, Tryz.results72, go_sem, *]) rfl ⟨rfl, yb⟩
end Go.Proofs.YtoenijflijfogaaGreat
