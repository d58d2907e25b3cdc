/- The walk of WideRing: whatever the numbers, it returns true. -/
import Derived.Test.YtaleggnhdodcdaaW9
import Derived.Deep.Cut
import Derived.Deep.DeepCutAuto
namespace Go.Proofs.Ytaleggnhdodcdaa
open Go.RowKit

theorem bcell7 {w1 w2 : World} {b o : Nat} {v : Option Value} (hb : Below w1.heap.size w1 w2) (h : b < w1.heap.size) (hc : w1.cell? ⟨b, o, none⟩ = v) : w2.cell? ⟨b, o, none⟩ = v := by
  rw [hb.cell (p := ⟨b, o, none⟩) h]; exact hc
theorem keepR {x y l : Int} {p q B : Nat} {w0 w1 w2 : World} (h : w1.cell? ⟨p, 0, none⟩ = some (.int .i64 (hi l)) ∧ w1.cell? ⟨p, 1, none⟩ = some (.int .u64 (lo l)) ∧ w1.cell? ⟨q, 0, none⟩ = some (.int .i64 (hi l)) ∧ w1.cell? ⟨q, 1, none⟩ = some (.int .u64 (lo l)) ∧ w1.cell? ⟨B, 0, none⟩ = some (.int .i64 (hi x)) ∧ w1.cell? ⟨B, 1, none⟩ = some (.int .u64 (lo x)) ∧ w1.cell? ⟨B + 1, 0, none⟩ = some (.int .i64 (hi y)) ∧ w1.cell? ⟨B + 1, 1, none⟩ = some (.int .u64 (lo y)) ∧ p < w1.heap.size ∧ q < w1.heap.size ∧ B + 2 < w1.heap.size ∧ Below B w0 w1) (hb : Below w1.heap.size w1 w2) : w2.cell? ⟨p, 0, none⟩ = some (.int .i64 (hi l)) ∧ w2.cell? ⟨p, 1, none⟩ = some (.int .u64 (lo l)) ∧ w2.cell? ⟨q, 0, none⟩ = some (.int .i64 (hi l)) ∧ w2.cell? ⟨q, 1, none⟩ = some (.int .u64 (lo l)) ∧ w2.cell? ⟨B, 0, none⟩ = some (.int .i64 (hi x)) ∧ w2.cell? ⟨B, 1, none⟩ = some (.int .u64 (lo x)) ∧ w2.cell? ⟨B + 1, 0, none⟩ = some (.int .i64 (hi y)) ∧ w2.cell? ⟨B + 1, 1, none⟩ = some (.int .u64 (lo y)) ∧ p < w2.heap.size ∧ q < w2.heap.size ∧ B + 2 < w2.heap.size ∧ Below B w0 w2 := by
  obtain ⟨h1, h2, h3, h4, h5, h6, h7, h8, s1, s2, s3, hB⟩ := h
  have hz := hb.size
  exact ⟨bcell7 hb s1 h1, bcell7 hb s1 h2, bcell7 hb s2 h3, bcell7 hb s2 h4, bcell7 hb (by omega) h5, bcell7 hb (by omega) h6, bcell7 hb (by omega) h7, bcell7 hb (by omega) h8, by omega, by omega, by omega, hB.trans (hb.mono (by omega))⟩
theorem belowR {x y l : Int} {p q B : Nat} {w0 w1 : World} (h : w1.cell? ⟨p, 0, none⟩ = some (.int .i64 (hi l)) ∧ w1.cell? ⟨p, 1, none⟩ = some (.int .u64 (lo l)) ∧ w1.cell? ⟨q, 0, none⟩ = some (.int .i64 (hi l)) ∧ w1.cell? ⟨q, 1, none⟩ = some (.int .u64 (lo l)) ∧ w1.cell? ⟨B, 0, none⟩ = some (.int .i64 (hi x)) ∧ w1.cell? ⟨B, 1, none⟩ = some (.int .u64 (lo x)) ∧ w1.cell? ⟨B + 1, 0, none⟩ = some (.int .i64 (hi y)) ∧ w1.cell? ⟨B + 1, 1, none⟩ = some (.int .u64 (lo y)) ∧ p < w1.heap.size ∧ q < w1.heap.size ∧ B + 2 < w1.heap.size ∧ Below B w0 w1) : Below B w0 w1 := by
  obtain ⟨_, _, _, _, _, _, _, _, _, _, _, hB⟩ := h
  exact hB
theorem balloc {w w1 : World} {o : Obj} (h : Below w.heap.size w w1) : Below w.heap.size w (w1.alloc o) := h.alloc h.size o
theorem bsetc {w w1 : World} {p : Addr} {u : Value} (h : Below w.heap.size w w1) (hp : w.heap.size ≤ p.block) : Below w.heap.size w (w1.setCell p u) := h.setCell hp u
theorem keepD {x y l : Int} {p q B : Nat} {w0 w1 : World} (h : w1.cell? ⟨p, 0, none⟩ = some (.int .i64 (hi l)) ∧ w1.cell? ⟨p, 1, none⟩ = some (.int .u64 (lo l)) ∧ w1.cell? ⟨q, 0, none⟩ = some (.int .i64 (hi l)) ∧ w1.cell? ⟨q, 1, none⟩ = some (.int .u64 (lo l)) ∧ w1.cell? ⟨B, 0, none⟩ = some (.int .i64 (hi x)) ∧ w1.cell? ⟨B, 1, none⟩ = some (.int .u64 (lo x)) ∧ w1.cell? ⟨B + 1, 0, none⟩ = some (.int .i64 (hi y)) ∧ w1.cell? ⟨B + 1, 1, none⟩ = some (.int .u64 (lo y)) ∧ p < w1.heap.size ∧ q < w1.heap.size ∧ B + 2 < w1.heap.size ∧ Below B w0 w1) : w1.drew.cell? ⟨p, 0, none⟩ = some (.int .i64 (hi l)) ∧ w1.drew.cell? ⟨p, 1, none⟩ = some (.int .u64 (lo l)) ∧ w1.drew.cell? ⟨q, 0, none⟩ = some (.int .i64 (hi l)) ∧ w1.drew.cell? ⟨q, 1, none⟩ = some (.int .u64 (lo l)) ∧ w1.drew.cell? ⟨B, 0, none⟩ = some (.int .i64 (hi x)) ∧ w1.drew.cell? ⟨B, 1, none⟩ = some (.int .u64 (lo x)) ∧ w1.drew.cell? ⟨B + 1, 0, none⟩ = some (.int .i64 (hi y)) ∧ w1.drew.cell? ⟨B + 1, 1, none⟩ = some (.int .u64 (lo y)) ∧ p < w1.drew.heap.size ∧ q < w1.drew.heap.size ∧ B + 2 < w1.drew.heap.size ∧ Below B w0 w1.drew := by
  obtain ⟨h1, h2, h3, h4, h5, h6, h7, h8, s1, s2, s3, hB⟩ := h
  exact ⟨h1, h2, h3, h4, h5, h6, h7, h8, s1, s2, s3, hB.drew⟩

set_option maxRecDepth 100000 in
set_option maxHeartbeats 14000000 in
theorem ring_any (x y z : Int) (w : World) :
    Calls Try.prog 7 #[.agg #[.int .i64 (hi x), .int .u64 (lo x)], .agg #[.int .i64 (hi y), .int .u64 (lo y)], .agg #[.int .i64 (hi z), .int .u64 (lo z)]] w fun e w' => e = .returned (.bool true) ∧ Below w.heap.size w w' := by
  have hl : x + (z + y) = x + y + z := by omega
  have HLL : Hid (x + (z + y) = x + y + z) := hl
  clear hl
  go_enter Try.func7, Try.ntmps7
  go_upto_region 1 with fail
  go_cut [7, 8] (fun l' r' wx => ∃ p q : Nat, l' = .pointer (some ⟨p, 0, none⟩) ∧ r' = .pointer (some ⟨q, 0, none⟩) ∧ wx.cell? ⟨p, 0, none⟩ = some (.int .i64 (hi (x + y + z))) ∧ wx.cell? ⟨p, 1, none⟩ = some (.int .u64 (lo (x + y + z))) ∧ wx.cell? ⟨q, 0, none⟩ = some (.int .i64 (hi (x + y + z))) ∧ wx.cell? ⟨q, 1, none⟩ = some (.int .u64 (lo (x + y + z))) ∧ wx.cell? ⟨w.heap.size, 0, none⟩ = some (.int .i64 (hi x)) ∧ wx.cell? ⟨w.heap.size, 1, none⟩ = some (.int .u64 (lo x)) ∧ wx.cell? ⟨w.heap.size + 1, 0, none⟩ = some (.int .i64 (hi y)) ∧ wx.cell? ⟨w.heap.size + 1, 1, none⟩ = some (.int .u64 (lo y)) ∧ p < wx.heap.size ∧ q < wx.heap.size ∧ w.heap.size + 2 < wx.heap.size ∧ Below w.heap.size w wx)
  case first =>
    go_region_held3 (fun w' => w'.cell? ⟨w.heap.size, 0, none⟩ = some (.int .i64 (hi x)) ∧ w'.cell? ⟨w.heap.size, 1, none⟩ = some (.int .u64 (lo x)) ∧ w'.cell? ⟨w.heap.size + 1, 0, none⟩ = some (.int .i64 (hi y)) ∧ w'.cell? ⟨w.heap.size + 1, 1, none⟩ = some (.int .u64 (lo y)) ∧ w'.cell? ⟨w.heap.size + 1 + 1, 0, none⟩ = some (.int .i64 (hi z)) ∧ w'.cell? ⟨w.heap.size + 1 + 1, 1, none⟩ = some (.int .u64 (lo z))) (simp [go_sem, World.cell?_alloc_past])
      (first
        | (go_at_call 12; refine (add_exact _ _ _).mono ?_; (try rw [HLL.out]); rintro e w' ⟨rfl, c1, c2, c3, c4, c5, rfl⟩))
    all_goals
      go_wp2_with fail
      go_meet
      case rel =>
        refine ⟨_, _, rfl, rfl, ?_, ?_, ?_, ?_, ?_, ?_, ?_, ?_, ?_, ?_, ?_, ?_⟩
        any_goals (simp [go_sem, World.cell?_alloc_past]; done)
        all_goals
          first
            | ((repeat (first | with_reducible exact Below.refl _ _ | with_reducible refine balloc ?_ | with_reducible refine Below.drew ?_)); done)
            | (simp; omega)
  case rest =>
    obtain ⟨p, q, rfl, rfl, hS⟩ := hcut
    generalize x + y + z = l at *
    have E1 : Hid (y + x = x + y) := Int.add_comm y x
    have E2 : Hid (x + y + -y = x) := by unfold Hid; omega
    have E3 : Hid (- -x = x) := Int.neg_neg x
    have E4 : Hid (x + 0 = x) := Int.add_zero x
    clear HLL
    go_wp2_with fail
    go_region_held3 (fun w' => w'.cell? ⟨p, 0, none⟩ = some (.int .i64 (hi l)) ∧ w'.cell? ⟨p, 1, none⟩ = some (.int .u64 (lo l)) ∧ w'.cell? ⟨q, 0, none⟩ = some (.int .i64 (hi l)) ∧ w'.cell? ⟨q, 1, none⟩ = some (.int .u64 (lo l)) ∧ w'.cell? ⟨w.heap.size, 0, none⟩ = some (.int .i64 (hi x)) ∧ w'.cell? ⟨w.heap.size, 1, none⟩ = some (.int .u64 (lo x)) ∧ w'.cell? ⟨w.heap.size + 1, 0, none⟩ = some (.int .i64 (hi y)) ∧ w'.cell? ⟨w.heap.size + 1, 1, none⟩ = some (.int .u64 (lo y)) ∧ p < w'.heap.size ∧ q < w'.heap.size ∧ w.heap.size + 2 < w'.heap.size ∧ Below w.heap.size w w') (first | exact keepR (by assumption) hb | exact keepD hS)
      (first
        | (go_at_call 9; refine (alive_any _).mono ?_; rintro e w' ⟨rfl, hb⟩)
        | (go_at_call 10; refine (of_any 0 (by decide) (by decide) _).mono ?_; rintro e w' ⟨rfl, hb⟩)
        | (go_at_call_of 14 (.agg #[.int .i64 (hi (-x)), .int .u64 (lo (-x))]); refine (minus_any (-x) _).mono ?_; rw [E3.out]; rintro e w' ⟨rfl, hb⟩)
        | (go_at_call 14; refine (minus_any _ _).mono ?_; rintro e w' ⟨rfl, hb⟩)
        | (go_at_call 12; refine (add_any _ _ _).mono ?_; (try rw [E1.out]); (try rw [E2.out]); (try rw [E4.out]); rintro e w' ⟨rfl, hb⟩))
    have HBF : Hid (Below w.heap.size w w') := by
      first
        | exact belowR (x := x) (y := y) (l := l) (p := p) (q := q) (B := w.heap.size) (w0 := w) (by assumption)
        | exact belowR (keepR (x := x) (y := y) (l := l) (p := p) (q := q) (B := w.heap.size) (w0 := w) (by assumption) hb)
    go_wp2_with fail
    go_ret
    exact ⟨rfl, HBF.out⟩
theorem ringWalk (x y z : Int) (w : World) (_ : -170141183460469231731687303715884105728 ≤ x) (_ : x < 170141183460469231731687303715884105728) (_ : -170141183460469231731687303715884105728 ≤ y) (_ : y < 170141183460469231731687303715884105728) (_ : -170141183460469231731687303715884105728 ≤ z) (_ : z < 170141183460469231731687303715884105728) :
    Calls Try.prog 7 #[.agg #[.int .i64 (hi x), .int .u64 (lo x)], .agg #[.int .i64 (hi y), .int .u64 (lo y)], .agg #[.int .i64 (hi z), .int .u64 (lo z)]] w fun e w' => e = .returned (.bool true) ∧ Below w.heap.size w w' := ring_any x y z w
end Go.Proofs.Ytaleggnhdodcdaa
