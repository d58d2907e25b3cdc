/- RS X1 X3 X6b, joined. -/
import Derived.Test.YtlpjdfgknmfmnaaTZ0
import Derived.Test.YtlpjdfgknmfmnaaTF2
import Derived.Test.YtlpjdfgknmfmnaaTF3
import Derived.Test.YtlpjdfgknmfmnaaRows
import Derived.WalkKit
import Derived.Deep.RegionHeld3
/- A drawn region's walk may hold on to more, as it goes on. -/
namespace Go.Proofs.Ytlpjdfgknmfmnaa
open Go.RowKit

theorem wpAnyH_sub {P : Program} {md : Region.Mode} {ops : Array Oper} {Q : Exit → Act → World → Prop} {S S' : World → Prop} (hS : ∀ w, S' w → S w) :
    ∀ (fuel : Nat) (listed : Array Bool) (a : Act) (w : World), wpAnyH P md ops Q S' fuel listed a w → wpAnyH P md ops Q S fuel listed a w
  | 0, _, _, _, h => h
  | fuel + 1, _, _, _, h => ⟨h.1, fun i hi => wpOp_mono (fun a' w' h' => ⟨hS _ h'.1, wpAnyH_sub hS fuel _ a' w' h'.2⟩) (h.2 i hi)⟩
end Go.Proofs.Ytlpjdfgknmfmnaa

/- The contract of the reference's Digits. -/
namespace Go.Proofs.Ytlpjdfgknmfmnaa
open Go.RowKit

/-- A digit to the base 256. -/
def dig (n : Int) (i : Nat) : Int := n / 256 ^ i % 256
/-- An array of sixteen numbers in memory. -/
def DArr (w : World) (b : Nat) (f : Nat → Int) : Prop := b < w.heap.size ∧ (∀ j, j < 16 → w.cell? ⟨b, j, none⟩ = some (.int .i64 (f j))) ∧ ∀ j, w.frozen? ⟨b, j, none⟩ = false
theorem DArr.set {w : World} {b : Nat} {f : Nat → Int} (h : DArr w b f) (i : Nat) (hi : i < 16) (z : Int) : DArr (w.setCell ⟨b, i, none⟩ (.int .i64 z)) b (fun j => if j = i then z else f j) := by
  obtain ⟨h1, h2, h3⟩ := h
  refine ⟨by simp [World.setCell]; exact h1, fun j hj => ?_, fun j => by rw [World.frozen?_setCell]; exact h3 j⟩
  by_cases e : j = i
  · subst e; simp only [if_true]; exact World.cell?_setCell_same _ _ _ (h2 j hj)
  · rw [World.cell?_setCell_other (h := by intro hh; injection hh with _ h2; omega)]
    simp only [if_neg e]; exact h2 j hj
theorem DArr.far {w : World} {b b' i : Nat} {u : Value} {f : Nat → Int} (h : DArr w b f) (hne : b' ≠ b) : DArr (w.setCell ⟨b', i, none⟩ u) b f := by
  obtain ⟨h1, h2, h3⟩ := h
  refine ⟨by simp [World.setCell]; exact h1, fun j hj => ?_, fun j => by rw [World.frozen?_setCell]; exact h3 j⟩
  rw [World.cell?_setCell_other (h := by intro hh; injection hh with e1 _; exact hne e1)]
  exact h2 j hj
theorem DArr.drew {w : World} {b : Nat} {f : Nat → Int} (h : DArr w b f) : DArr w.drew b f := h
theorem DArr.congr {w : World} {b : Nat} {f g : Nat → Int} (h : DArr w b f) (e : ∀ j, j < 16 → f j = g j) : DArr w b g := ⟨h.1, fun j hj => by rw [← e j hj]; exact h.2.1 j hj, h.2.2⟩
theorem DArr.below {w w' : World} {b : Nat} {f : Nat → Int} (h : DArr w b f) (hb : Below w.heap.size w w') : DArr w' b f := by
  have := hb.size
  exact ⟨by have := h.1; omega, fun j hj => (hb.cell (p := ⟨b, j, none⟩) h.1).trans (h.2.1 j hj), fun j => (hb.frozen (p := ⟨b, j, none⟩) h.1).trans (h.2.2 j)⟩
/-- The digits so far. -/
def dgF (L U : Int) (k j : Nat) : Int := if j < 8 then (if j < k then dig L j else 0) else (if j - 8 < k then dig U (j - 8) else 0)

set_option maxRecDepth 100000 in
set_option maxHeartbeats 2000000 in
theorem digits_walk (H L U : Int) (l1 : 0 ≤ L) (l2 : L < 18446744073709551616) (hU : IntKind.u64.wrap H = U) (u1 : 0 ≤ U) (u2 : U < 18446744073709551616) (w : World) :
    Calls Try.prog 87 #[.agg #[.int .i64 H, .int .u64 L]] w fun e w' => e = .returned (.agg #[.int .i64 (dig L 0), .int .i64 (dig L 1), .int .i64 (dig L 2), .int .i64 (dig L 3), .int .i64 (dig L 4), .int .i64 (dig L 5), .int .i64 (dig L 6), .int .i64 (dig L 7), .int .i64 (dig U 0), .int .i64 (dig U 1), .int .i64 (dig U 2), .int .i64 (dig U 3), .int .i64 (dig U 4), .int .i64 (dig U 5), .int .i64 (dig U 6), .int .i64 (dig U 7)]) ∧ Below w.heap.size w w' := by
  have HB0 : Hid (∀ o1 o2 o3, Below w.heap.size w (((w.alloc o1).alloc o2).alloc o3)) := fun o1 o2 o3 => (((Below.refl _ _).alloc (by simp) _).alloc (by simp) _).alloc (by simp; omega) _
  go_enter Try.func87, Try.ntmps87
  go_wp2_with fail
  refine wp_region_noPanic ?_
  refine wp_region_held_drew (S := (fun w' => w'.cell? ⟨w.heap.size, 0, none⟩ = some (.int .i64 H) ∧ w'.cell? ⟨w.heap.size, 1, none⟩ = some (.int .u64 L))) (by kernel_rfl) ?_ (fun hHeld => ?_)
  · exact ⟨by simp [go_sem, World.cell?_alloc_past], by simp [go_sem, World.cell?_alloc_past]⟩
  refine tk (i := 0) (v := .pointer (some ⟨w.heap.size, 1, none⟩)) rfl ?_ ?_
  · intro w1 hSw; go_simp
  simp only [za, zc, Act.put, zd, ze, zf]
  refine tk (i := 1) (v := .int .u64 L) rfl ?_ ?_
  · intro w1 hSw; go_simp
  simp only [za, zb, zc, Act.put, zd, ze, zf]
  refine tk (i := 2) (v := .pointer (some ⟨w.heap.size, 0, none⟩)) rfl ?_ ?_
  · intro w1 hSw; go_simp
  simp only [za, zb, zc, Act.put, zd, ze, zf]
  refine tk (i := 3) (v := .int .i64 H) rfl ?_ ?_
  · intro w1 hSw; go_simp
  simp only [za, zb, zc, Act.put, zd, ze, zf]
  refine tk (i := 4) (v := .int .u64 U) rfl ?_ ?_
  · intro w1 hSw; go_simp
  simp only [za, zb, zc, Act.put, zd, ze, zf]
  refine tk (i := 5) (v := .int .u64 L) rfl ?_ ?_
  · intro w1 hSw; go_simp
  simp only [za, zb, zc, Act.put, zd, ze, zf]
  refine tk (i := 6) (v := .int .u64 U) rfl ?_ ?_
  · intro w1 hSw; go_simp
  simp only [za, zb, zc, Act.put, zd, ze, zf]
  refine wpAnyH_done (by kernel_rfl) ?_ _
  refine NoPanic.normal ?_
  clear hHeld hU
  go_wp2_with fail
  go_loopw [4, 5, 6] (fun lo hi i wr => ∃ k : Nat, k ≤ 8 ∧ i = .int .i64 (k : Int) ∧ lo = .int .u64 (L / 256 ^ k) ∧ hi = .int .u64 (U / 256 ^ k) ∧ DArr wr (w.heap.size + 1 + 1) (dgF L U k) ∧ DArr wr (w.heap.size + 1) (fun _ => 0) ∧ Below w.heap.size w wr) (fun _ _ i _ => 8 - (intOf i).toNat)
  case atStart =>
    refine ⟨0, by omega, rfl, by simp, by simp, ⟨by simp, ?_, ?_⟩, ⟨by simp, ?_, ?_⟩, (HB0.out _ _ _).drew⟩
    · intro j hj
      have e : dgF L U 0 j = 0 := by unfold dgF; split <;> simp
      rw [e]
      have hjj : j = 0 ∨ j = 1 ∨ j = 2 ∨ j = 3 ∨ j = 4 ∨ j = 5 ∨ j = 6 ∨ j = 7 ∨ j = 8 ∨ j = 9 ∨ j = 10 ∨ j = 11 ∨ j = 12 ∨ j = 13 ∨ j = 14 ∨ j = 15 := by omega
      rcases hjj with rfl | rfl | rfl | rfl | rfl | rfl | rfl | rfl | rfl | rfl | rfl | rfl | rfl | rfl | rfl | rfl <;> simp [go_sem]
    · intro j; simp [go_sem]
    · intro j hj
      have hjj : j = 0 ∨ j = 1 ∨ j = 2 ∨ j = 3 ∨ j = 4 ∨ j = 5 ∨ j = 6 ∨ j = 7 ∨ j = 8 ∨ j = 9 ∨ j = 10 ∨ j = 11 ∨ j = 12 ∨ j = 13 ∨ j = 14 ∨ j = 15 := by omega
      rcases hjj with rfl | rfl | rfl | rfl | rfl | rfl | rfl | rfl | rfl | rfl | rfl | rfl | rfl | rfl | rfl | rfl <;> simp [go_sem, World.cell?_alloc_past]
    · intro j; simp [go_sem]
  case round =>
    obtain ⟨k, hk, rfl, rfl, rfl, hd, hz, hbr⟩ := hrel
    by_cases hlt : k < 8
    · have c1 := hd.2.1 k (by omega)
      have c2 := hd.2.1 (8 + k) (by omega)
      have f1 := hd.2.2 k
      have f2 := hd.2.2 (8 + k)
      have pk : (0 : Int) < 256 ^ k := Int.pow_pos (by omega)
      have a1 : 0 ≤ L / 256 ^ k := Int.ediv_nonneg l1 (by omega)
      have a2 : L / 256 ^ k ≤ L := Int.ediv_le_self _ l1
      have b1 : 0 ≤ U / 256 ^ k := Int.ediv_nonneg u1 (by omega)
      have b2 : U / 256 ^ k ≤ U := Int.ediv_le_self _ u1
      have HA : Hid (L / 256 ^ k / 256 = L / 256 ^ (k + 1)) := by unfold Hid; rw [Int.pow_succ, Int.ediv_ediv_of_nonneg (by omega)]
      have HBb : Hid (U / 256 ^ k / 256 = U / 256 ^ (k + 1)) := by unfold Hid; rw [Int.pow_succ, Int.ediv_ediv_of_nonneg (by omega)]
      have HD : Hid (∀ wz, wz = (wr.setCell ⟨w.heap.size + 1 + 1, k, none⟩ (.int .i64 (L / 256 ^ k % 256))).setCell ⟨w.heap.size + 1 + 1, 8 + k, none⟩ (.int .i64 (U / 256 ^ k % 256)) → DArr wz (w.heap.size + 1 + 1) (dgF L U (k + 1)) ∧ DArr wz (w.heap.size + 1) (fun _ => 0) ∧ Below w.heap.size w wz) := by
        rintro wz rfl
        refine ⟨((hd.set k (by omega) _).set (8 + k) (by omega) _).congr ?_, (hz.far (by omega)).far (by omega), (hbr.setCell (by show w.heap.size ≤ w.heap.size + 1 + 1; omega) _).setCell (by show w.heap.size ≤ w.heap.size + 1 + 1; omega) _⟩
        intro j hj
        unfold dgF
        by_cases e1 : j = 8 + k
        · subst e1
          rw [if_pos rfl, if_neg (by omega), if_pos (by omega)]
          have e : 8 + k - 8 = k := by omega
          rw [e]; rfl
        · rw [if_neg e1]
          by_cases e2 : j = k
          · subst e2
            rw [if_pos rfl, if_pos (by omega), if_pos (by omega)]; rfl
          · rw [if_neg e2]
            by_cases e3 : j < 8
            · rw [if_pos e3, if_pos e3]
              by_cases e4 : j < k
              · rw [if_pos e4, if_pos (by omega)]
              · rw [if_neg e4, if_neg (by omega)]
            · rw [if_neg e3, if_neg e3]
              by_cases e4 : j - 8 < k
              · rw [if_pos e4, if_pos (by omega)]
              · rw [if_neg e4, if_neg (by omega)]
      generalize hA : L / 256 ^ k = A at *
      generalize hB : U / 256 ^ k = B at *
      have t1 : Int.tmod A 256 = A % 256 := Int.tmod_eq_emod_of_nonneg a1
      have t2 : Int.tmod B 256 = B % 256 := Int.tmod_eq_emod_of_nonneg b1
      have t3 : Int.tdiv A 256 = A / 256 := Int.tdiv_eq_ediv_of_nonneg a1
      have t4 : Int.tdiv B 256 = B / 256 := Int.tdiv_eq_ediv_of_nonneg b1
      have a3 : A < 18446744073709551616 := by omega
      have b3 : B < 18446744073709551616 := by omega
      have hsz := hbr.size
      clear hd hz hbr hA hB pk a2 b2
      go_wp2_with fail
      go_roundw
      case rel =>
        obtain ⟨z1, z2, z3⟩ := HD.out _ rfl
        exact ⟨k + 1, by omega, by go_num, by rw [HA.out], by rw [HBb.out], z1, z2, z3⟩
      case measure => simp [intOf]; omega
    · have hke : k = 8 := by omega
      subst hke
      have e : ∀ j, j < 16 → dgF L U 8 j = if j < 8 then dig L j else dig U (j - 8) := by
        intro j hj; unfold dgF
        by_cases h : j < 8
        · rw [if_pos h, if_pos h, if_pos h]
        · rw [if_neg h, if_neg h, if_pos (by omega)]
      have hd' := hd.congr e
      have c0 : wr.cell? ⟨w.heap.size + 1 + 1, 0, none⟩ = some (.int .i64 (dig L 0)) := hd'.2.1 0 (by omega)
      have c1 : wr.cell? ⟨w.heap.size + 1 + 1, 1, none⟩ = some (.int .i64 (dig L 1)) := hd'.2.1 1 (by omega)
      have c2 : wr.cell? ⟨w.heap.size + 1 + 1, 2, none⟩ = some (.int .i64 (dig L 2)) := hd'.2.1 2 (by omega)
      have c3 : wr.cell? ⟨w.heap.size + 1 + 1, 3, none⟩ = some (.int .i64 (dig L 3)) := hd'.2.1 3 (by omega)
      have c4 : wr.cell? ⟨w.heap.size + 1 + 1, 4, none⟩ = some (.int .i64 (dig L 4)) := hd'.2.1 4 (by omega)
      have c5 : wr.cell? ⟨w.heap.size + 1 + 1, 5, none⟩ = some (.int .i64 (dig L 5)) := hd'.2.1 5 (by omega)
      have c6 : wr.cell? ⟨w.heap.size + 1 + 1, 6, none⟩ = some (.int .i64 (dig L 6)) := hd'.2.1 6 (by omega)
      have c7 : wr.cell? ⟨w.heap.size + 1 + 1, 7, none⟩ = some (.int .i64 (dig L 7)) := hd'.2.1 7 (by omega)
      have c8 : wr.cell? ⟨w.heap.size + 1 + 1, 8, none⟩ = some (.int .i64 (dig U 0)) := hd'.2.1 8 (by omega)
      have c9 : wr.cell? ⟨w.heap.size + 1 + 1, 9, none⟩ = some (.int .i64 (dig U 1)) := hd'.2.1 9 (by omega)
      have c10 : wr.cell? ⟨w.heap.size + 1 + 1, 10, none⟩ = some (.int .i64 (dig U 2)) := hd'.2.1 10 (by omega)
      have c11 : wr.cell? ⟨w.heap.size + 1 + 1, 11, none⟩ = some (.int .i64 (dig U 3)) := hd'.2.1 11 (by omega)
      have c12 : wr.cell? ⟨w.heap.size + 1 + 1, 12, none⟩ = some (.int .i64 (dig U 4)) := hd'.2.1 12 (by omega)
      have c13 : wr.cell? ⟨w.heap.size + 1 + 1, 13, none⟩ = some (.int .i64 (dig U 5)) := hd'.2.1 13 (by omega)
      have c14 : wr.cell? ⟨w.heap.size + 1 + 1, 14, none⟩ = some (.int .i64 (dig U 6)) := hd'.2.1 14 (by omega)
      have c15 : wr.cell? ⟨w.heap.size + 1 + 1, 15, none⟩ = some (.int .i64 (dig U 7)) := hd'.2.1 15 (by omega)
      have z0 : wr.cell? ⟨w.heap.size + 1, 0, none⟩ = some (.int .i64 0) := hz.2.1 0 (by omega)
      have z1 : wr.cell? ⟨w.heap.size + 1, 1, none⟩ = some (.int .i64 0) := hz.2.1 1 (by omega)
      have z2 : wr.cell? ⟨w.heap.size + 1, 2, none⟩ = some (.int .i64 0) := hz.2.1 2 (by omega)
      have z3 : wr.cell? ⟨w.heap.size + 1, 3, none⟩ = some (.int .i64 0) := hz.2.1 3 (by omega)
      have z4 : wr.cell? ⟨w.heap.size + 1, 4, none⟩ = some (.int .i64 0) := hz.2.1 4 (by omega)
      have z5 : wr.cell? ⟨w.heap.size + 1, 5, none⟩ = some (.int .i64 0) := hz.2.1 5 (by omega)
      have z6 : wr.cell? ⟨w.heap.size + 1, 6, none⟩ = some (.int .i64 0) := hz.2.1 6 (by omega)
      have z7 : wr.cell? ⟨w.heap.size + 1, 7, none⟩ = some (.int .i64 0) := hz.2.1 7 (by omega)
      have z8 : wr.cell? ⟨w.heap.size + 1, 8, none⟩ = some (.int .i64 0) := hz.2.1 8 (by omega)
      have z9 : wr.cell? ⟨w.heap.size + 1, 9, none⟩ = some (.int .i64 0) := hz.2.1 9 (by omega)
      have z10 : wr.cell? ⟨w.heap.size + 1, 10, none⟩ = some (.int .i64 0) := hz.2.1 10 (by omega)
      have z11 : wr.cell? ⟨w.heap.size + 1, 11, none⟩ = some (.int .i64 0) := hz.2.1 11 (by omega)
      have z12 : wr.cell? ⟨w.heap.size + 1, 12, none⟩ = some (.int .i64 0) := hz.2.1 12 (by omega)
      have z13 : wr.cell? ⟨w.heap.size + 1, 13, none⟩ = some (.int .i64 0) := hz.2.1 13 (by omega)
      have z14 : wr.cell? ⟨w.heap.size + 1, 14, none⟩ = some (.int .i64 0) := hz.2.1 14 (by omega)
      have z15 : wr.cell? ⟨w.heap.size + 1, 15, none⟩ = some (.int .i64 0) := hz.2.1 15 (by omega)
      have f0 := hz.2.2 0
      have f1 := hz.2.2 1
      have f2 := hz.2.2 2
      have f3 := hz.2.2 3
      have f4 := hz.2.2 4
      have f5 := hz.2.2 5
      have f6 := hz.2.2 6
      have f7 := hz.2.2 7
      have f8 := hz.2.2 8
      have f9 := hz.2.2 9
      have f10 := hz.2.2 10
      have f11 := hz.2.2 11
      have f12 := hz.2.2 12
      have f13 := hz.2.2 13
      have f14 := hz.2.2 14
      have f15 := hz.2.2 15
      have HB : Hid (Below w.heap.size w wr) := hbr
      have hsz := hbr.size
      have HW : Hid (∀ wz, wz = ((((((((((((((((wr.setCell ⟨w.heap.size + 1, 0, none⟩ (.int .i64 (dig L 0))).setCell ⟨w.heap.size + 1, 1, none⟩ (.int .i64 (dig L 1))).setCell ⟨w.heap.size + 1, 2, none⟩ (.int .i64 (dig L 2))).setCell ⟨w.heap.size + 1, 3, none⟩ (.int .i64 (dig L 3))).setCell ⟨w.heap.size + 1, 4, none⟩ (.int .i64 (dig L 4))).setCell ⟨w.heap.size + 1, 5, none⟩ (.int .i64 (dig L 5))).setCell ⟨w.heap.size + 1, 6, none⟩ (.int .i64 (dig L 6))).setCell ⟨w.heap.size + 1, 7, none⟩ (.int .i64 (dig L 7))).setCell ⟨w.heap.size + 1, 8, none⟩ (.int .i64 (dig U 0))).setCell ⟨w.heap.size + 1, 9, none⟩ (.int .i64 (dig U 1))).setCell ⟨w.heap.size + 1, 10, none⟩ (.int .i64 (dig U 2))).setCell ⟨w.heap.size + 1, 11, none⟩ (.int .i64 (dig U 3))).setCell ⟨w.heap.size + 1, 12, none⟩ (.int .i64 (dig U 4))).setCell ⟨w.heap.size + 1, 13, none⟩ (.int .i64 (dig U 5))).setCell ⟨w.heap.size + 1, 14, none⟩ (.int .i64 (dig U 6))).setCell ⟨w.heap.size + 1, 15, none⟩ (.int .i64 (dig U 7))) → DArr wz (w.heap.size + 1) (fun j => if j < 8 then dig L j else dig U (j - 8)) ∧ Below w.heap.size w wz) := by
        rintro wz rfl
        refine ⟨((((((((((((((((hz.set 0 (by omega) (dig L 0)).set 1 (by omega) (dig L 1)).set 2 (by omega) (dig L 2)).set 3 (by omega) (dig L 3)).set 4 (by omega) (dig L 4)).set 5 (by omega) (dig L 5)).set 6 (by omega) (dig L 6)).set 7 (by omega) (dig L 7)).set 8 (by omega) (dig U 0)).set 9 (by omega) (dig U 1)).set 10 (by omega) (dig U 2)).set 11 (by omega) (dig U 3)).set 12 (by omega) (dig U 4)).set 13 (by omega) (dig U 5)).set 14 (by omega) (dig U 6)).set 15 (by omega) (dig U 7)).congr ?_, ((((((((((((((((hbr.setCell (p := ⟨w.heap.size + 1, 0, none⟩) (by show w.heap.size ≤ w.heap.size + 1; omega) _).setCell (p := ⟨w.heap.size + 1, 1, none⟩) (by show w.heap.size ≤ w.heap.size + 1; omega) _).setCell (p := ⟨w.heap.size + 1, 2, none⟩) (by show w.heap.size ≤ w.heap.size + 1; omega) _).setCell (p := ⟨w.heap.size + 1, 3, none⟩) (by show w.heap.size ≤ w.heap.size + 1; omega) _).setCell (p := ⟨w.heap.size + 1, 4, none⟩) (by show w.heap.size ≤ w.heap.size + 1; omega) _).setCell (p := ⟨w.heap.size + 1, 5, none⟩) (by show w.heap.size ≤ w.heap.size + 1; omega) _).setCell (p := ⟨w.heap.size + 1, 6, none⟩) (by show w.heap.size ≤ w.heap.size + 1; omega) _).setCell (p := ⟨w.heap.size + 1, 7, none⟩) (by show w.heap.size ≤ w.heap.size + 1; omega) _).setCell (p := ⟨w.heap.size + 1, 8, none⟩) (by show w.heap.size ≤ w.heap.size + 1; omega) _).setCell (p := ⟨w.heap.size + 1, 9, none⟩) (by show w.heap.size ≤ w.heap.size + 1; omega) _).setCell (p := ⟨w.heap.size + 1, 10, none⟩) (by show w.heap.size ≤ w.heap.size + 1; omega) _).setCell (p := ⟨w.heap.size + 1, 11, none⟩) (by show w.heap.size ≤ w.heap.size + 1; omega) _).setCell (p := ⟨w.heap.size + 1, 12, none⟩) (by show w.heap.size ≤ w.heap.size + 1; omega) _).setCell (p := ⟨w.heap.size + 1, 13, none⟩) (by show w.heap.size ≤ w.heap.size + 1; omega) _).setCell (p := ⟨w.heap.size + 1, 14, none⟩) (by show w.heap.size ≤ w.heap.size + 1; omega) _).setCell (p := ⟨w.heap.size + 1, 15, none⟩) (by show w.heap.size ≤ w.heap.size + 1; omega) _)⟩
        intro j hj
        have hjj : j = 0 ∨ j = 1 ∨ j = 2 ∨ j = 3 ∨ j = 4 ∨ j = 5 ∨ j = 6 ∨ j = 7 ∨ j = 8 ∨ j = 9 ∨ j = 10 ∨ j = 11 ∨ j = 12 ∨ j = 13 ∨ j = 14 ∨ j = 15 := by omega
        rcases hjj with rfl | rfl | rfl | rfl | rfl | rfl | rfl | rfl | rfl | rfl | rfl | rfl | rfl | rfl | rfl | rfl <;> rfl
      clear hd hd' hz hbr e l1 l2 u1 u2
      go_wp2_with fail
      obtain ⟨wz, hwz⟩ : ∃ wz, wz = ((((((((((((((((wr.setCell ⟨w.heap.size + 1, 0, none⟩ (.int .i64 (dig L 0))).setCell ⟨w.heap.size + 1, 1, none⟩ (.int .i64 (dig L 1))).setCell ⟨w.heap.size + 1, 2, none⟩ (.int .i64 (dig L 2))).setCell ⟨w.heap.size + 1, 3, none⟩ (.int .i64 (dig L 3))).setCell ⟨w.heap.size + 1, 4, none⟩ (.int .i64 (dig L 4))).setCell ⟨w.heap.size + 1, 5, none⟩ (.int .i64 (dig L 5))).setCell ⟨w.heap.size + 1, 6, none⟩ (.int .i64 (dig L 6))).setCell ⟨w.heap.size + 1, 7, none⟩ (.int .i64 (dig L 7))).setCell ⟨w.heap.size + 1, 8, none⟩ (.int .i64 (dig U 0))).setCell ⟨w.heap.size + 1, 9, none⟩ (.int .i64 (dig U 1))).setCell ⟨w.heap.size + 1, 10, none⟩ (.int .i64 (dig U 2))).setCell ⟨w.heap.size + 1, 11, none⟩ (.int .i64 (dig U 3))).setCell ⟨w.heap.size + 1, 12, none⟩ (.int .i64 (dig U 4))).setCell ⟨w.heap.size + 1, 13, none⟩ (.int .i64 (dig U 5))).setCell ⟨w.heap.size + 1, 14, none⟩ (.int .i64 (dig U 6))).setCell ⟨w.heap.size + 1, 15, none⟩ (.int .i64 (dig U 7))) := ⟨_, rfl⟩
      rw [← hwz]
      obtain ⟨y, yb⟩ := HW.out wz hwz
      have y0 : wz.cell? ⟨w.heap.size + 1, 0, none⟩ = some (.int .i64 (dig L 0)) := y.2.1 0 (by omega)
      have y1 : wz.cell? ⟨w.heap.size + 1, 1, none⟩ = some (.int .i64 (dig L 1)) := y.2.1 1 (by omega)
      have y2 : wz.cell? ⟨w.heap.size + 1, 2, none⟩ = some (.int .i64 (dig L 2)) := y.2.1 2 (by omega)
      have y3 : wz.cell? ⟨w.heap.size + 1, 3, none⟩ = some (.int .i64 (dig L 3)) := y.2.1 3 (by omega)
      have y4 : wz.cell? ⟨w.heap.size + 1, 4, none⟩ = some (.int .i64 (dig L 4)) := y.2.1 4 (by omega)
      have y5 : wz.cell? ⟨w.heap.size + 1, 5, none⟩ = some (.int .i64 (dig L 5)) := y.2.1 5 (by omega)
      have y6 : wz.cell? ⟨w.heap.size + 1, 6, none⟩ = some (.int .i64 (dig L 6)) := y.2.1 6 (by omega)
      have y7 : wz.cell? ⟨w.heap.size + 1, 7, none⟩ = some (.int .i64 (dig L 7)) := y.2.1 7 (by omega)
      have y8 : wz.cell? ⟨w.heap.size + 1, 8, none⟩ = some (.int .i64 (dig U 0)) := y.2.1 8 (by omega)
      have y9 : wz.cell? ⟨w.heap.size + 1, 9, none⟩ = some (.int .i64 (dig U 1)) := y.2.1 9 (by omega)
      have y10 : wz.cell? ⟨w.heap.size + 1, 10, none⟩ = some (.int .i64 (dig U 2)) := y.2.1 10 (by omega)
      have y11 : wz.cell? ⟨w.heap.size + 1, 11, none⟩ = some (.int .i64 (dig U 3)) := y.2.1 11 (by omega)
      have y12 : wz.cell? ⟨w.heap.size + 1, 12, none⟩ = some (.int .i64 (dig U 4)) := y.2.1 12 (by omega)
      have y13 : wz.cell? ⟨w.heap.size + 1, 13, none⟩ = some (.int .i64 (dig U 5)) := y.2.1 13 (by omega)
      have y14 : wz.cell? ⟨w.heap.size + 1, 14, none⟩ = some (.int .i64 (dig U 6)) := y.2.1 14 (by omega)
      have y15 : wz.cell? ⟨w.heap.size + 1, 15, none⟩ = some (.int .i64 (dig U 7)) := y.2.1 15 (by omega)
      clear hwz HW
      exact bodyPost_ret (v := .agg #[.int .i64 (dig L 0), .int .i64 (dig L 1), .int .i64 (dig L 2), .int .i64 (dig L 3), .int .i64 (dig L 4), .int .i64 (dig L 5), .int .i64 (dig L 6), .int .i64 (dig L 7), .int .i64 (dig U 0), .int .i64 (dig U 1), .int .i64 (dig U 2), .int .i64 (dig U 3), .int .i64 (dig U 4), .int .i64 (dig U 5), .int .i64 (dig U 6), .int .i64 (dig U 7)]) (by simp [results, Try.results87, go_sem, *]) rfl ⟨rfl, yb⟩
end Go.Proofs.Ytlpjdfgknmfmnaa

/- The contract of the reference's From. -/
namespace Go.Proofs.Ytlpjdfgknmfmnaa
open Go.RowKit

theorem DArr.new (w : World) (f : Nat → Int) (t : TypeId) : DArr (w.alloc (.cells #[.int .i64 (f 0), .int .i64 (f 1), .int .i64 (f 2), .int .i64 (f 3), .int .i64 (f 4), .int .i64 (f 5), .int .i64 (f 6), .int .i64 (f 7), .int .i64 (f 8), .int .i64 (f 9), .int .i64 (f 10), .int .i64 (f 11), .int .i64 (f 12), .int .i64 (f 13), .int .i64 (f 14), .int .i64 (f 15)] t)) w.heap.size f := by
  refine ⟨by simp, fun j hj => ?_, fun j => by simp [go_sem]⟩
  have hjj : j = 0 ∨ j = 1 ∨ j = 2 ∨ j = 3 ∨ j = 4 ∨ j = 5 ∨ j = 6 ∨ j = 7 ∨ j = 8 ∨ j = 9 ∨ j = 10 ∨ j = 11 ∨ j = 12 ∨ j = 13 ∨ j = 14 ∨ j = 15 := by omega
  rcases hjj with rfl | rfl | rfl | rfl | rfl | rfl | rfl | rfl | rfl | rfl | rfl | rfl | rfl | rfl | rfl | rfl <;> simp [go_sem]
set_option maxRecDepth 100000 in
set_option maxHeartbeats 2000000 in
theorem from_any (f : Nat → Int) (zs : List Int) (hl : zs.length = 16) (hz : ∀ x ∈ zs, 0 ≤ x ∧ x ≤ 255) (hf : ∀ j, j < 16 → f j = zs.getD (15 - j) 0) (w : World) :
    Calls Try.prog 97 #[.agg #[.int .i64 (f 0), .int .i64 (f 1), .int .i64 (f 2), .int .i64 (f 3), .int .i64 (f 4), .int .i64 (f 5), .int .i64 (f 6), .int .i64 (f 7), .int .i64 (f 8), .int .i64 (f 9), .int .i64 (f 10), .int .i64 (f 11), .int .i64 (f 12), .int .i64 (f 13), .int .i64 (f 14), .int .i64 (f 15)]] w fun e w' => e = .returned (.agg #[.int .i64 (IntKind.i64.wrap (beval (zs.take 8))), .int .u64 (beval (zs.drop 8))]) ∧ Below w.heap.size w w' := by
  have HB0 : Hid (∀ o1 o2, Below w.heap.size w ((w.alloc o1).alloc o2)) := fun o1 o2 => ((Below.refl _ _).alloc (by simp) _).alloc (by simp) _
  have HN : Hid (∀ t, DArr (w.alloc (.cells #[.int .i64 (f 0), .int .i64 (f 1), .int .i64 (f 2), .int .i64 (f 3), .int .i64 (f 4), .int .i64 (f 5), .int .i64 (f 6), .int .i64 (f 7), .int .i64 (f 8), .int .i64 (f 9), .int .i64 (f 10), .int .i64 (f 11), .int .i64 (f 12), .int .i64 (f 13), .int .i64 (f 14), .int .i64 (f 15)] t)) w.heap.size f) := fun t => DArr.new w f t
  obtain ⟨zh, hzh⟩ : ∃ zh, zh = zs.take 8 := ⟨_, rfl⟩
  obtain ⟨zl, hzl⟩ : ∃ zl, zl = zs.drop 8 := ⟨_, rfl⟩
  have lh : zh.length = 8 := by rw [hzh, List.length_take]; omega
  have ll : zl.length = 8 := by rw [hzl, List.length_drop]; omega
  have bh : ∀ x ∈ zh, 0 ≤ x ∧ x ≤ 255 := fun x hx => hz x (by rw [hzh] at hx; exact List.mem_of_mem_take hx)
  have bl : ∀ x ∈ zl, 0 ≤ x ∧ x ≤ 255 := fun x hx => hz x (by rw [hzl] at hx; exact List.mem_of_mem_drop hx)
  have HFH : Hid (∀ m, m < 8 → f (8 + (7 - m)) = zh.getD m 0) := by
    intro m hm
    rw [hf _ (by omega), hzh]
    have e : 15 - (8 + (7 - m)) = m := by omega
    rw [e]; simp [hm]
  have HFL : Hid (∀ m, m < 8 → f (7 - m) = zl.getD m 0) := by
    intro m hm
    rw [hf _ (by omega), hzl]
    have e : 15 - (7 - m) = 8 + m := by omega
    rw [e]; simp [List.getElem?_drop]
  rw [← hzh, ← hzl]
  clear hz hf hl hzh hzl
  go_enter Try.func97, Try.ntmps97
  go_wp2_with fail
  go_loopw [3, 4, 5] (fun lo hi i wr => ∃ m : Nat, m ≤ 8 ∧ i = .int .i64 (7 - (m : Int)) ∧ lo = .int .u64 (beval (zl.take m)) ∧ hi = .int .u64 (beval (zh.take m)) ∧ DArr wr w.heap.size f ∧ wr.cell? ⟨w.heap.size + 1, 0, none⟩ = some (.int .i64 0) ∧ wr.cell? ⟨w.heap.size + 1, 1, none⟩ = some (.int .u64 0) ∧ wr.frozen? ⟨w.heap.size + 1, 0, none⟩ = false ∧ wr.frozen? ⟨w.heap.size + 1, 1, none⟩ = false ∧ Below w.heap.size w wr) (fun _ _ i _ => (intOf i + 1).toNat)
  case atStart =>
    refine ⟨0, by omega, rfl, rfl, rfl, (HN.out _).below ((Below.refl _ _).alloc (Nat.le_refl _) _), by simp [go_sem], by simp [go_sem], by simp [go_sem], by simp [go_sem], HB0.out _ _⟩
  case round =>
    obtain ⟨m, hm, rfl, rfl, rfl, hd, r0, r1, r2, r3, hbr⟩ := hrel
    by_cases hlt : m < 8
    · obtain ⟨k, hk⟩ : ∃ k : Nat, (7 - (m : Int)) = (k : Int) := ⟨7 - m, by omega⟩
      have ek : k = 7 - m := by omega
      have c1 := hd.2.1 k (by omega)
      have c2 := hd.2.1 (8 + k) (by omega)
      have HT1 : Hid _ := beval_take zl m (by omega)
      have HT2 : Hid _ := beval_take zh m (by omega)
      have d1 := beval_bd zl bl m
      have d2 := beval_bd zh bh m
      have e1 := bl _ (getD_mem zl m (by omega))
      have e2 := bh _ (getD_mem zh m (by omega))
      have hq : (256 : Int) ^ m ≤ 72057594037927936 := by
        have : (256 : Int) ^ m ≤ 256 ^ 7 := by
          have h7 : (256 : Nat) ^ m ≤ 256 ^ 7 := Nat.pow_le_pow_right (by omega) (by omega)
          exact_mod_cast h7
        simpa using this
      rw [ek] at c1 c2
      rw [HFL.out m hlt] at c1
      rw [HFH.out m hlt] at c2
      rw [← ek] at c1 c2
      generalize zl.getD m 0 = x at *
      generalize zh.getD m 0 = y at *
      generalize beval (zl.take m) = A at *
      generalize beval (zh.take m) = B at *
      generalize (256 : Int) ^ m = q at *
      have A1 : A < 72057594037927936 := by omega
      have B1 : B < 72057594037927936 := by omega
      have A0 := d1.1
      have B0 := d2.1
      obtain ⟨x0, x1⟩ := e1
      obtain ⟨y0, y1⟩ := e2
      have w1 : IntKind.u64.wrap (256 * A) = 256 * A := by rw [IntKind.wrap_u64]; omega
      have w2 : IntKind.u64.wrap (256 * B) = 256 * B := by rw [IntKind.wrap_u64]; omega
      have w3 : IntKind.u64.wrap (256 * A + x) = 256 * A + x := by rw [IntKind.wrap_u64]; omega
      have w4 : IntKind.u64.wrap (256 * B + y) = 256 * B + y := by rw [IntKind.wrap_u64]; omega
      have w5 : IntKind.u64.wrap x = x := by rw [IntKind.wrap_u64]; omega
      have w6 : IntKind.u64.wrap y = y := by rw [IntKind.wrap_u64]; omega
      have k7 : (k : Int) ≤ 7 := by omega
      have k16 : (k : Int) < 16 := by omega
      obtain ⟨k8, hk8⟩ : ∃ k8, k8 = 8 + k := ⟨_, rfl⟩
      have w7 : IntKind.i64.wrap (8 + (k : Int)) = (k8 : Int) := by rw [IntKind.wrap_i64]; omega
      have k816 : (k8 : Int) < 16 := by omega
      rw [← hk8] at c2
      have HB : Hid (Below w.heap.size w wr) := hbr
      have HR : Hid (DArr wr w.heap.size f ∧ wr.cell? ⟨w.heap.size + 1, 0, none⟩ = some (.int .i64 0) ∧ wr.cell? ⟨w.heap.size + 1, 1, none⟩ = some (.int .u64 0) ∧ wr.frozen? ⟨w.heap.size + 1, 0, none⟩ = false ∧ wr.frozen? ⟨w.heap.size + 1, 1, none⟩ = false) := ⟨hd, r0, r1, r2, r3⟩
      have HK : Hid (7 - (m : Int) = (k : Int)) := hk
      have HMM : Hid (k = 7 - m) := ek
      rw [hk]
      clear hd hbr d1 d2 hq bh bl r0 r1 r2 r3 hk ek hk8
      go_wp2_with fail
      refine wp_region_noPanic ?_
      refine wp_region_held_drew (S := (fun w' => w'.cell? ⟨w.heap.size, k, none⟩ = some (.int .i64 x) ∧ w'.cell? ⟨w.heap.size, k8, none⟩ = some (.int .i64 y))) (by kernel_rfl) ?_ (fun hHeld => ?_)
      · exact ⟨c1, c2⟩
      refine tk (i := 0) (v := .int .u64 A) rfl ?_ ?_
      · intro w1 hSw; go_simp
      simp only [za, zc, Act.put, zd, ze, zf]
      refine tk (i := 1) (v := .int .u64 (256 * A)) rfl ?_ ?_
      · intro w1 hSw; go_simp
      simp only [za, zb, zc, Act.put, zd, ze, zf]
      refine tk (i := 2) (v := .int .i64 k) rfl ?_ ?_
      · intro w1 hSw; go_simp
      simp only [za, zb, zc, Act.put, zd, ze, zf]
      refine tk (i := 3) (v := .pointer (some ⟨w.heap.size, k, none⟩)) rfl ?_ ?_
      · intro w1 hSw; go_simp
      simp only [za, zb, zc, Act.put, zd, ze, zf]
      refine tk (i := 4) (v := .int .i64 x) rfl ?_ ?_
      · intro w1 hSw; go_simp
      simp only [za, zb, zc, Act.put, zd, ze, zf]
      refine tk (i := 5) (v := .int .u64 x) rfl ?_ ?_
      · intro w1 hSw; go_simp
      simp only [za, zb, zc, Act.put, zd, ze, zf]
      refine tk (i := 6) (v := .int .u64 (256 * A + x)) rfl ?_ ?_
      · intro w1 hSw; go_simp
      simp only [za, zb, zc, Act.put, zd, ze, zf]
      refine tk (i := 7) (v := .int .u64 B) rfl ?_ ?_
      · intro w1 hSw; go_simp
      simp only [za, zb, zc, Act.put, zd, ze, zf]
      refine tk (i := 8) (v := .int .u64 (256 * B)) rfl ?_ ?_
      · intro w1 hSw; go_simp
      simp only [za, zb, zc, Act.put, zd, ze, zf]
      refine tk (i := 9) (v := .int .i64 k) rfl ?_ ?_
      · intro w1 hSw; go_simp
      simp only [za, zb, zc, Act.put, zd, ze, zf]
      refine tk (i := 10) (v := .int .i64 k8) rfl ?_ ?_
      · intro w1 hSw; go_simp
      simp only [za, zb, zc, Act.put, zd, ze, zf]
      refine tk (i := 11) (v := .pointer (some ⟨w.heap.size, k8, none⟩)) rfl ?_ ?_
      · intro w1 hSw; go_simp
      simp only [za, zb, zc, Act.put, zd, ze, zf]
      refine tk (i := 12) (v := .int .i64 y) rfl ?_ ?_
      · intro w1 hSw; go_simp
      simp only [za, zb, zc, Act.put, zd, ze, zf]
      refine tk (i := 13) (v := .int .u64 y) rfl ?_ ?_
      · intro w1 hSw; go_simp
      simp only [za, zb, zc, Act.put, zd, ze, zf]
      refine tk (i := 14) (v := .int .u64 (256 * B + y)) rfl ?_ ?_
      · intro w1 hSw; go_simp
      simp only [za, zb, zc, Act.put, zd, ze, zf]
      refine tk (i := 15) (v := .int .u64 (256 * A + x)) rfl ?_ ?_
      · intro w1 hSw; go_simp
      simp only [za, zb, zc, Act.put, zd, ze, zf]
      refine tk (i := 16) (v := .int .u64 (256 * B + y)) rfl ?_ ?_
      · intro w1 hSw; go_simp
      simp only [za, zb, zc, Act.put, zd, ze, zf]
      refine wpAnyH_done (by kernel_rfl) ?_ _
      refine NoPanic.normal ?_
      go_wp2_with fail
      go_roundw
      case rel =>
        obtain ⟨q1, q2, q3, q4, q5⟩ := HR.out
        refine ⟨m + 1, by omega, ?_, ?_, ?_, q1, q2, q3, q4, q5, HB.out.drew⟩
        · have := HK.out; exact congrArg (Value.int .i64) (by omega)
        · rw [HT1.out]; exact congrArg (Value.int .u64) (by omega)
        · rw [HT2.out]; exact congrArg (Value.int .u64) (by omega)
      case measure => simp [intOf]
    · have hm8 : m = 8 := by omega
      subst hm8
      have t1 : zl.take 8 = zl := List.take_of_length_le (by omega)
      have t2 : zh.take 8 = zh := List.take_of_length_le (by omega)
      rw [t1, t2]
      have HB : Hid (Below w.heap.size w wr) := hbr
      have hsz := hbr.size
      have hi7 : (7 - ((8 : Nat) : Int)) = -1 := by omega
      rw [hi7]
      clear hd hbr bh bl t1 t2 lh ll HFH HFL HN HB0 hi7
      obtain ⟨A, HA⟩ : ∃ A, Hid (A = beval zl) := ⟨_, rfl⟩
      obtain ⟨B, HBB⟩ : ∃ B, Hid (B = beval zh) := ⟨_, rfl⟩
      rw [← HA.out, ← HBB.out]
      go_wp2_with fail
      refine bodyPost_ret (v := .agg #[.int .i64 (wrap64 B), .int .u64 A]) (by simp [results, Try.results97, go_sem, *]) rfl ⟨by rw [← HA.out, ← HBB.out, IntKind.wrap_i64]; simp [wrap64], ?_⟩
      exact (HB.out.setCell (p := ⟨w.heap.size + 1, 0, none⟩) (by show w.heap.size ≤ w.heap.size + 1; omega) _).setCell (p := ⟨w.heap.size + 1, 1, none⟩) (by show w.heap.size ≤ w.heap.size + 1; omega) _
end Go.Proofs.Ytlpjdfgknmfmnaa

/- The contract of the reference's Write (beside the newer words on bytes). -/
namespace Go.Proofs.Ytlpjdfgknmfmnaa
open Go.RowKit

theorem DArr.bel {w w' : World} {n b : Nat} {f : Nat → Int} (h : DArr w b f) (hb : Below n w w') (hn : b < n) : DArr w' b f := by
  have := hb.size
  exact ⟨by have := h.1; omega, fun j hj => (hb.cell (p := ⟨b, j, none⟩) hn).trans (h.2.1 j hj), fun j => (hb.frozen (p := ⟨b, j, none⟩) hn).trans (h.2.2 j)⟩
/-- Digit j, the least first. -/
def wrF (L U : Int) (j : Nat) : Int := if j < 8 then dig L j else dig U (j - 8)
/-- The first m bytes, the greatest first. -/
def wrZ (L U : Int) (m : Nat) : List Int := (List.range m).map fun j => wrF L U (15 - j)
theorem wrZ_succ (L U : Int) (m : Nat) : wrZ L U (m + 1) = wrZ L U m ++ [wrF L U (15 - m)] := by
  simp [wrZ, List.range_succ]
theorem wrF_bd (L U : Int) (j : Nat) : 0 ≤ wrF L U j ∧ wrF L U j ≤ 255 := by
  unfold wrF dig; split <;> omega
theorem wrZ_all (L U : Int) : wrZ L U 16 = sixteen U L := by
  simp [wrZ, List.range_succ, wrF, dig, sixteen, bytesTo, byteOf]
theorem digits_f (H L U : Int) (l1 : 0 ≤ L) (l2 : L < 18446744073709551616) (hU : IntKind.u64.wrap H = U) (u1 : 0 ≤ U) (u2 : U < 18446744073709551616) (w : World) :
    Calls Try.prog 87 #[.agg #[.int .i64 H, .int .u64 L]] w fun e w' => e = .returned (.agg #[.int .i64 (wrF L U 0), .int .i64 (wrF L U 1), .int .i64 (wrF L U 2), .int .i64 (wrF L U 3), .int .i64 (wrF L U 4), .int .i64 (wrF L U 5), .int .i64 (wrF L U 6), .int .i64 (wrF L U 7), .int .i64 (wrF L U 8), .int .i64 (wrF L U 9), .int .i64 (wrF L U 10), .int .i64 (wrF L U 11), .int .i64 (wrF L U 12), .int .i64 (wrF L U 13), .int .i64 (wrF L U 14), .int .i64 (wrF L U 15)]) ∧ Below w.heap.size w w' := digits_walk H L U l1 l2 hU u1 u2 w
set_option maxRecDepth 100000 in
set_option maxHeartbeats 2000000 in
theorem refWrite_walk (H L U : Int) (l1 : 0 ≤ L) (l2 : L < 18446744073709551616) (hU : IntKind.u64.wrap H = U) (u1 : 0 ≤ U) (u2 : U < 18446744073709551616) (w : World) : Calls Try.prog 62 #[.agg #[.int .i64 H, .int .u64 L]] w fun e w' => ∃ v, e = .returned v ∧ w'.ownsRow w.heap.size 5 1 v 16 ((wrZ L U 16).map (Value.int .u8)) ∧ Below w.heap.size w w' := by
  obtain ⟨i0, hi, hz0, hz1, hz2⟩ := info_parts info5
  have HB0 : Hid (∀ o, Below w.heap.size w (w.alloc o)) := fun o => (Below.refl _ _).alloc (Nat.le_refl _) _
  go_enter Try.func62, Try.ntmps62
  go_wp2_with fail
  refine (digits_f H L U l1 l2 hU u1 u2 _).mono ?_
  rintro e w1 ⟨rfl, hb⟩
  have HB1 : Hid (Below w.heap.size w w1) := (HB0.out _).trans (hb.mono (by simp))
  clear hb HB0 hU
  have HF : Hid (∀ j, 0 ≤ wrF L U j ∧ wrF L U j ≤ 255) := wrF_bd L U
  have HN : Hid (∀ t, DArr (w1.alloc (.cells #[.int .i64 (wrF L U 0), .int .i64 (wrF L U 1), .int .i64 (wrF L U 2), .int .i64 (wrF L U 3), .int .i64 (wrF L U 4), .int .i64 (wrF L U 5), .int .i64 (wrF L U 6), .int .i64 (wrF L U 7), .int .i64 (wrF L U 8), .int .i64 (wrF L U 9), .int .i64 (wrF L U 10), .int .i64 (wrF L U 11), .int .i64 (wrF L U 12), .int .i64 (wrF L U 13), .int .i64 (wrF L U 14), .int .i64 (wrF L U 15)] t)) w1.heap.size (wrF L U)) := fun t => DArr.new w1 (wrF L U) t
  have HZ0 : Hid (wrZ L U 0 = []) := rfl
  have HZS : Hid (∀ m, wrZ L U (m + 1) = wrZ L U m ++ [wrF L U (15 - m)]) := wrZ_succ L U
  obtain ⟨Z, HZE⟩ : ∃ Z, Hid (Z = wrZ L U) := ⟨_, rfl⟩
  rw [← HZE.out] at HZ0 HZS
  generalize wrF L U = f at *
  go_wp2_with fail
  go_loopw [4, 5] (fun v i wr => ∃ m : Nat, m ≤ 16 ∧ i = .int .i64 (15 - (m : Int)) ∧ wr.ownsRow (w1.heap.size + 1) 5 1 v m ((Z m).map (Value.int .u8)) ∧ DArr wr w1.heap.size f ∧ Below w.heap.size w wr) (fun _ i _ => (intOf i + 1).toNat)
  case atStart =>
    refine ⟨0, by omega, rfl, by rw [HZ0.out]; exact ⟨rfl, .inl ⟨rfl, rfl⟩⟩, HN.out _, HB1.out.alloc HB1.out.size _⟩
  case round =>
    obtain ⟨m, hm, rfl, hown, hd, hbr⟩ := hrel
    by_cases hlt : m < 16
    · obtain ⟨k, hk⟩ : ∃ k : Nat, (15 - (m : Int)) = (k : Int) := ⟨15 - m, by omega⟩
      have ek : k = 15 - m := by omega
      have c1 := hd.2.1 k (by omega)
      obtain ⟨z0, z1⟩ := HF.out k
      have HX : Hid (Z (m + 1) = Z m ++ [f k]) := by unfold Hid; rw [HZS.out m, ek]
      have HO : Hid _ := hown
      have HB : Hid (Below w.heap.size w wr) := hbr
      have HD : Hid (DArr wr w1.heap.size f) := hd
      have s1 := hbr.size
      have s2 := hd.1
      have k0 : (0 : Int) ≤ (k : Int) := by omega
      have k16 : (k : Int) < 16 := by omega
      have w5 : IntKind.u8.wrap (f k) = f k := by rw [IntKind.wrap_u8]; omega
      have HK : Hid (15 - (m : Int) = (k : Int)) := hk
      have HM : Hid (m < 16) := hlt
      generalize hx : f k = x at *
      rw [hk]
      clear hd hbr hk ek hlt hm
      go_wp2_with (at_builtin; refine wpList_append_own _ rfl _ _ 25 rfl (w1.heap.size + 1) 5 i0 (.int .u8 0) 1 1 Try.underlying25 hi hz0 hz1 hz2 rfl (by decide) _ _ _ rfl (hown.alloc _) ⟨wr.heap.size, 0, none⟩ 1 1 [.int .u8 x] rfl rfl ?c1 ?c2 ?c3 ?c4 ?c5 ?_)
      case c1 =>
        intro j u hj
        match j, hj with
        | 0, hj => simp at hj; subst hj; simp [Addr.add]
      case c2 => intro u hu; simp at hu; subst hu; rfl
      case c3 => unfold maxLen; have := HM.out; omega
      case c4 => have := HM.out; omega
      case c5 => simp; omega
      intro v' w2 hown' hgrow _
      have HO2 : Hid (w2.ownsRow (w1.heap.size + 1) 5 1 v' (m + 1) ((Z (m + 1)).map (Value.int .u8))) := by
        unfold Hid
        rw [HX.out, List.map_append]
        exact hown'
      have HB2 : Hid (Below (w1.heap.size + 1) wr w2) := ((Below.refl _ _).alloc (by omega) _).grown hgrow (by simp; omega) (own_block hown)
      clear hown hown' hgrow
      go_wp2_with fail
      go_roundw
      case rel =>
        have := HK.out
        have := HM.out
        exact ⟨m + 1, by omega, congrArg (Value.int .i64) (by omega), HO2.out, HD.out.bel HB2.out (by omega), HB.out.trans (HB2.out.mono (by have := HB1.out.size; omega))⟩
      case measure => simp [intOf]
    · have hm16 : m = 16 := by omega
      subst hm16
      have HO : Hid _ := hown
      have HB : Hid (Below w.heap.size w wr) := hbr
      clear hown hbr hd
      go_wp2_with fail
      go_ret
      obtain ⟨o1, o2⟩ := HO.out
      rw [HZE.out] at o1 o2
      refine ⟨_, rfl, ⟨o1, o2.imp id ?_⟩, HB.out⟩
      rintro ⟨g, cap, cur, e, hg, hr⟩
      exact ⟨g, cap, cur, e, by have := HB1.out.size; omega, hr⟩
end Go.Proofs.Ytlpjdfgknmfmnaa
