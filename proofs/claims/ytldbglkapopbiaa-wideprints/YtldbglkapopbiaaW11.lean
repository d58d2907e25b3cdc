/- The contract of wide.Write: sixteen bytes, the greatest first. -/
import Derived.Test.YtldbglkapopbiaaW10
namespace Go.Proofs.Ytldbglkapopbiaa
open Go.RowKit

theorem mk8 : ∀ w, (Instr.makeSlice 36 (.int .i64 0) (.int .i64 (8 * ((1 : Nat) : Int)))).run Try.prog w = .ok (.slice (some ⟨w.heap.size, 0, none⟩) 0 (8 * 1)) (w.alloc (.cells (Array.replicate (8 * 1) (.int .u8 0)) 5)) := fun _ => by kernel_rfl
theorem mk16 : ∀ w, (Instr.makeSlice 36 (.int .i64 0) (.int .i64 (8 * ((2 : Nat) : Int)))).run Try.prog w = .ok (.slice (some ⟨w.heap.size, 0, none⟩) 0 (8 * 2)) (w.alloc (.cells (Array.replicate (8 * 2) (.int .u8 0)) 5)) := fun _ => by kernel_rfl
/-- The eight bytes of one number, the sixteen of two. -/
def eight (x : Int) : List Int := bytesTo [x] 8
def sixteen (x y : Int) : List Int := bytesTo [x, y] 16
theorem eight_len (x : Int) : (eight x).length = 8 := bytesTo_len _ _
theorem sixteen_len (x y : Int) : (sixteen x y).length = 16 := bytesTo_len _ _
theorem word1 (b : Nat) (x : Int) (hx : 0 ≤ x ∧ x < 18446744073709551616) (w : World) (hbw : b < w.heap.size) (h0 : w.cell? ⟨b, 0, none⟩ = some (.int .u64 x)) :
    Calls Try.prog 36 #[.slice (some ⟨b, 0, none⟩) 1 1] w fun e w' => ∃ v, e = .returned v ∧ w'.ownsRow w.heap.size 5 1 v 8 ((eight x).map (Value.int .u8)) ∧ Below w.heap.size w w' :=
  wordWrite_any b 1 [x] rfl (by omega) (by intro z hz; simp at hz; subst hz; exact hx) w hbw (by
    intro i hi
    match i, hi with
    | 0, _ => simpa using h0) mk8
theorem word2 (b : Nat) (x y : Int) (hx : 0 ≤ x ∧ x < 18446744073709551616) (hy : 0 ≤ y ∧ y < 18446744073709551616) (w : World) (hbw : b < w.heap.size) (h0 : w.cell? ⟨b, 0, none⟩ = some (.int .u64 x)) (h1 : w.cell? ⟨b, 1, none⟩ = some (.int .u64 y)) :
    Calls Try.prog 36 #[.slice (some ⟨b, 0, none⟩) 2 2] w fun e w' => ∃ v, e = .returned v ∧ w'.ownsRow w.heap.size 5 1 v 16 ((sixteen x y).map (Value.int .u8)) ∧ Below w.heap.size w w' :=
  wordWrite_any b 2 [x, y] rfl (by omega) (by intro z hz; simp at hz; rcases hz with rfl | rfl <;> assumption) w hbw (by
    intro i hi
    match i, hi with
    | 0, _ => simpa using h0
    | 1, _ => simpa using h1) mk16

theorem own_mono {w : World} {base base' : Nat} {e : TypeId} {size : Nat} {v : Value} {n : Nat} {xs : List Value} (h : w.ownsRow base e size v n xs) (hb : base' ≤ base) : w.ownsRow base' e size v n xs := by
  obtain ⟨h1, h2⟩ := h
  refine ⟨h1, ?_⟩
  rcases h2 with h2 | ⟨g, cap, cur, hv, hg, r⟩
  · exact .inl h2
  · exact .inr ⟨g, cap, cur, hv, by omega, r⟩

set_option maxHeartbeats 400000 in
theorem wideWrite_any (x : Int) (w : World) :
    Calls Try.prog 22 #[.agg #[.int .i64 (hi x), .int .u64 (lo x)]] w fun e w' => ∃ v, e = .returned v ∧ w'.ownsRow w.heap.size 5 1 v 16 ((sixteen (hi x % 18446744073709551616) (lo x)).map (Value.int .u8)) ∧ Below w.heap.size w w' := by
  have lx := lo_bd x; have hx := hi_bd x
  go_enter Try.func22, Try.ntmps22
  go_wp2_with fail
  simp only [IntKind.wrap_u64]
  refine (word2 _ (hi x % 18446744073709551616) (lo x) (by omega) lx _ (by simp) (by simp [go_sem]) (by simp [go_sem])).mono ?_
  rintro e w1 ⟨v, rfl, hown, hb⟩
  have HB : Hid (Below w.heap.size w w1) := (((Below.refl _ _).alloc (by simp) _).alloc (by simp) _).trans (hb.mono (by simp; omega))
  have HO : Hid _ := own_mono hown (base' := w.heap.size) (by simp; omega)
  clear hown hb
  go_wp2_with fail
  go_ret
  exact ⟨_, rfl, HO.out, HB.out⟩
end Go.Proofs.Ytldbglkapopbiaa
