/- FL2. -/
import Derived.Test.YthicmbjiblbcmaaGreatTQ21
import Derived.Test.YthicmbjiblbcmaaGreatTQ12
import Derived.Test.YthicmbjiblbcmaaGreatTQ13
import Derived.Test.YthicmbjiblbcmaaGreatTQ15
import Derived.Test.YthicmbjiblbcmaaGreatTQ20
import Derived.BigQuiet
import Derived.Deep.QuietTactic
import Derived.WalkKit
import Derived.Laws.Bits64
import Derived.WalkSpells
import Derived.WalkLawsBesides
import Derived.Laws.Externs
import Derived.Lib.Mul64
import Derived.Laws.Bits64b
import Derived.Deep.RegionHeld3
import Derived.WalkMore
import Derived.Below
import Derived.Laws.AppendOwn
import Derived.Laws.IdiomStrings
import Derived.Laws.BytesString
import Derived.Laws.Strings
import Derived.Laws.AppendOwnNone
import Derived.Lib.Bytealg
import Derived.ProofKit
import Derived.OpenShut
import Derived.Lib.SmallJoins
import Derived.Laws.CopyOwn
import Derived.Laws.OwnMore
import Derived.Deep.Slices
import Derived.BigRegion
import Derived.Deep.MidRow
import Derived.Laws.IdiomCopy
import Derived.SliceStrings
import Derived.Laws.BitsAllLaws
import Derived.ScopeJumps
import Derived.Laws.MakeOwn
namespace Go.Proofs.YthicmbjiblbcmaaGreat
open Go.RowKit

theorem step_all (R : Rl) (t wm : Int) : ∃ K, Hid (fE R t wm = 0 → IsStep R t wm K) := by
  by_cases h0 : fE R t wm = 0
  · obtain ⟨K, hK⟩ := step_exists (fE_ok h0).1 t wm; exact ⟨K, fun _ => hK⟩
  · exact ⟨0, fun h => absurd h h0⟩
set_option maxRecDepth 100000 in
set_option maxHeartbeats 1000000 in
theorem fault15_any (R : Rl) (wm : Int) (w : World) (hL : Lies R w.heap.size w) :
    Calls Tryz.prog 34 #[.agg #[.slice R.a R.len R.cap, .int .i64 R.kp], .int .i64 wm] w fun e w' => e = .returned (.int .i64 (fE R 0 wm)) ∧ Below w.heap.size w w' := by
  obtain ⟨K, HK⟩ := step_all R 0 wm
  have HL : Hid (Lies R w.heap.size w) := hL
  have HB0 : Hid (Below w.heap.size w (w.alloc (.cells #[.slice R.a R.len R.cap, .int .i64 R.kp] 24))) := new_below _ _
  have HX0 : Hid (RBox R w.heap.size (w.alloc (.cells #[.slice R.a R.len R.cap, .int .i64 R.kp] 24))) := RBox.new R w _
  have HL0 : Hid (Lies R (w.alloc (.cells #[.slice R.a R.len R.cap, .int .i64 R.kp] 24)).heap.size (w.alloc (.cells #[.slice R.a R.len R.cap, .int .i64 R.kp] 24))) := HL.out.at HB0.out
  clear hL
  go_enter Tryz.func34, Tryz.ntmps34
  go_wp2_with fail
  refine (step_any R 0 wm K HK.out _ HL0.out).mono ?_
  rintro e w1 ⟨rfl, hb1⟩
  have HB1 : Hid (Below w.heap.size w w1) := HB0.out.trans (hb1.mono HB0.out.size)
  have HX1 : Hid (RBox R w.heap.size w1) := HX0.out.below hb1
  have HL1 : Hid (Lies R w1.heap.size w1) := HL.out.at HB1.out
  clear hb1
  (try clear c0 c1)
  obtain ⟨_, c0, c1⟩ := HX1.out
  go_wp2_with fail
  go_ret
  exact ⟨rfl, HB1.out⟩
/-- Is a bucket one of the rules'? -/
def begB (R : Rl) (f : Int) (n : Nat) : Bool := decide (n < R.len) && (isT f && isS (R.sz n)) && decide (f - f % R.sz n = f)
theorem begB_iff {R : Rl} (hR : RightP R) {f : Int} {n : Nat} : begB R f n = true ↔ Beg R f n := by
  unfold begB
  simp only [Bool.and_eq_true, decide_eq_true_eq]
  constructor
  · rintro ⟨⟨h1, h2, h3⟩, h4⟩
    exact ⟨h1, h2, by omega⟩
  · intro h
    exact ⟨⟨h.gl, h.t, sz_ok hR h.gl⟩, by rw [h.m]; omega⟩
/-- The two boxes. -/
theorem two_box {w : World} {x0 x1 y0 y1 y2 : Value} {t u : TypeId} : ((w.alloc (.cells #[x0, x1] t)).alloc (.cells #[y0, y1, y2] u)).heap[w.heap.size]? = some (.cells #[x0, x1] t) ∧ ((w.alloc (.cells #[x0, x1] t)).alloc (.cells #[y0, y1, y2] u)).heap[w.heap.size + 1]? = some (.cells #[y0, y1, y2] u) := by
  constructor
  · rw [Below.heap_alloc _ _ _ (by simp)]; exact heap_alloc_new _ _
  · have := heap_alloc_new (w.alloc (.cells #[x0, x1] t)) (.cells #[y0, y1, y2] u)
    simpa using this
set_option maxRecDepth 100000 in
set_option maxHeartbeats 1000000 in
theorem begins_any (R : Rl) (va : Option Addr) (vn vc : Nat) (f : Int) (n : Nat) (hn : n ≤ 255) (w : World) (hL : Lies R w.heap.size w) :
    Calls Tryz.prog 60 #[.agg #[.slice R.a R.len R.cap, .int .i64 R.kp], .agg #[.slice va vn vc, .int .i64 f, .int .i64 (n : Int)]] w fun e w' => e = .returned (.bool (begB R f n)) ∧ Below w.heap.size w w' := by
  have hml : R.len ≤ maxLen := hL.1
  unfold maxLen at hml
  by_cases h1 : R.len ≤ n
  · have HB : Hid (begB R f n = false) := by unfold Hid begB; rw [decide_eq_false (by omega)]; rfl
    clear hL
    go_enter Tryz.func60, Tryz.ntmps60
    go_wp2_with fail
    go_ret
    exact ⟨by rw [HB.out]; rfl, ((Below.refl _ _).alloc (Nat.le_refl _) _).alloc (by simp) _⟩
  · have hlt : n < R.len := by omega
    obtain ⟨b, off, ha, hbl, hcs⟩ : ∃ b off, R.a = some ⟨b, off, none⟩ ∧ b < w.heap.size ∧ ∀ i, i < R.len → w.cell? ⟨b, off + i * 2, none⟩ = some (.int .i64 (R.sz i)) ∧ w.cell? ⟨b, off + i * 2 + 1, none⟩ = some (.int .i64 (R.ag i)) := by
      rcases hL.2.2 with h | h
      · omega
      · exact h
    have HB : Hid (begB R f n = ((isT f && isS (R.sz n)) && decide (f - f % R.sz n = f))) := by unfold Hid begB; rw [decide_eq_true hlt]; rfl
    rw [ha]
    have cz := (hcs n hlt).1
    have hbl2 : b ≠ w.heap.size := by omega
    have hbl3 : b ≠ w.heap.size + 1 := by omega
    have HBL : Hid (b < w.heap.size) := hbl
    clear hcs hL ha
    obtain ⟨w2, HW2⟩ := hid_ex ((w.alloc (.cells #[.slice (some ⟨b, off, none⟩) R.len R.cap, .int .i64 R.kp] 24)).alloc (.cells #[.slice va vn vc, .int .i64 f, .int .i64 (n : Int)] 73))
    have HB2 : Hid (Below w.heap.size w w2) := by rw [HW2.out]; exact ((Below.refl _ _).alloc (Nat.le_refl _) _).alloc (by simp) _
    have hx0 := (two_box (w := w) (x0 := .slice (some ⟨b, off, none⟩) R.len R.cap) (x1 := .int .i64 R.kp) (y0 := .slice va vn vc) (y1 := .int .i64 f) (y2 := .int .i64 (n : Int)) (t := 24) (u := 73))
    rw [← HW2.out] at hx0
    have k0 : w2.cell? ⟨w.heap.size, 0, none⟩ = some (.slice (some ⟨b, off, none⟩) R.len R.cap) := by rw [Go.Joins.cell_of_block hx0.1]; rfl
    have k1 : w2.cell? ⟨w.heap.size + 1, 1, none⟩ = some (.int .i64 f) := by rw [Go.Joins.cell_of_block hx0.2]; rfl
    have k2 : w2.cell? ⟨w.heap.size + 1, 2, none⟩ = some (.int .i64 (n : Int)) := by rw [Go.Joins.cell_of_block hx0.2]; rfl
    have k3 : w2.cell? ⟨b, off + n * 2, none⟩ = some (.int .i64 (R.sz n)) := (HB2.out.cell (p := ⟨b, off + n * 2, none⟩) hbl).trans cz
    obtain ⟨s, Hs⟩ := hid_ex (R.sz n)
    rw [← Hs.out] at k3 HB
    clear cz hx0 hbl hbl2 hbl3
    by_cases ht : isT f && isS s
    · have HV : Hid (floorV f s = .tuple #[.int .i64 (f - f % s), .int .i64 0]) := by unfold Hid floorV; rw [if_pos ht, if_pos ht]
      rw [ht, Bool.true_and] at HB
      obtain ⟨fr, Hfr⟩ := hid_ex (f - f % s)
      rw [← Hfr.out] at HV HB
      clear ht Hfr
      go_enter Tryz.func60, Tryz.ntmps60
      go_wp2_with fail
      rw [← HW2.out]
      go_quiet (exact (floor_any f s _).mono (fun e w h => ⟨by rw [h.1, HV.out], _, h.2⟩))
      obtain ⟨w3, HW3⟩ := hid_ex (w2.drewN nq)
      have HB3 : Hid (Below w.heap.size w w3) := by rw [HW3.out]; exact below_drewN HB2.out nq
      have j1 : w3.cell? ⟨w.heap.size + 1, 1, none⟩ = some (.int .i64 f) := by rw [HW3.out]; exact k1
      rw [← HW3.out]
      clear k0 k1 k2 k3 HW3
      go_wp2_with fail
      go_ret
      exact ⟨by rw [HB.out]; congr 2, HB3.out⟩
    · have hf := Bool.not_eq_true _ ▸ ht
      have HV : Hid (floorV f s = .tuple #[.int .i64 0, .int .i64 1]) := by unfold Hid floorV; rw [if_neg ht, if_neg ht]
      rw [hf, Bool.false_and] at HB
      clear ht hf
      go_enter Tryz.func60, Tryz.ntmps60
      go_wp2_with fail
      rw [← HW2.out]
      go_quiet (exact (floor_any f s _).mono (fun e w h => ⟨by rw [h.1, HV.out], _, h.2⟩))
      obtain ⟨w3, HW3⟩ := hid_ex (w2.drewN nq)
      have HB3 : Hid (Below w.heap.size w w3) := by rw [HW3.out]; exact below_drewN HB2.out nq
      rw [← HW3.out]
      clear k0 k1 k2 k3 HW3
      go_wp2_with fail
      go_ret
      exact ⟨by rw [HB.out]; rfl, HB3.out⟩
/-- What fateOf tells. -/
noncomputable def fateV (R : Rl) (wm f : Int) (g : Nat) : Value := .agg #[.int .i64 (flq R wm f g), .int .i64 ((stq R wm f g : Nat) : Int), .bool (goneB R wm f)]
set_option maxRecDepth 100000 in
set_option maxHeartbeats 2000000 in
theorem fateOf_any (R : Rl) (hR : RightP R) (wm : Int) (hwm : isT wm = true) (va : Option Addr) (vn vc : Nat) (f : Int) (g : Nat) (ht : isT f = true) (hg : g < R.len) (w : World) (hL : Lies R w.heap.size w) :
    Calls Tryz.prog 21 #[.agg #[.slice R.a R.len R.cap, .int .i64 R.kp], .int .i64 wm, .agg #[.slice va vn vc, .int .i64 f, .int .i64 (g : Int)]] w fun e w' => e = .returned (fateV R wm f g) ∧ Below w.heap.size w w' := by
  have h4 := hR.2.1
  have hml : R.len ≤ maxLen := hL.1
  unfold maxLen at hml
  obtain ⟨b, off, ha, hbl, hcs⟩ : ∃ b off, R.a = some ⟨b, off, none⟩ ∧ b < w.heap.size ∧ ∀ i, i < R.len → w.cell? ⟨b, off + i * 2, none⟩ = some (.int .i64 (R.sz i)) ∧ w.cell? ⟨b, off + i * 2 + 1, none⟩ = some (.int .i64 (R.ag i)) := by
    rcases hL.2.2 with h | h
    · omega
    · exact h
  have HK : Hid (fE R f wm = 0 → IsStep R f wm (stp R f wm)) := fun _ => stp_is hR f wm
  have hF := fE_of hR ht hwm
  have HS : Hid (∀ W, Lies R W.heap.size W → Calls Tryz.prog 37 #[.agg #[.slice (some ⟨b, off, none⟩) R.len R.cap, .int .i64 R.kp], .int .i64 f, .int .i64 wm] W fun e w' => e = .returned (.tuple #[.int .i64 ((stp R f wm : Nat) : Int), .int .i64 0]) ∧ Below W.heap.size W w') := by
    intro W hW
    have := step_any R f wm _ HK.out W hW
    unfold stA at this
    rw [if_pos hF, hF, ha] at this
    exact this
  have HE : Hid (∀ W, Lies R W.heap.size W → Calls Tryz.prog 39 #[.agg #[.slice (some ⟨b, off, none⟩) R.len R.cap, .int .i64 R.kp], .int .i64 f, .int .i64 wm] W fun e w' => e = .returned (.tuple #[.bool (goneB R wm f), .int .i64 0]) ∧ Below W.heap.size W w') := by
    intro W hW
    have := expired_any R f wm W hW
    unfold exA at this
    rw [if_pos hF, hF, ha] at this
    exact this
  have hsl : stp R f wm < R.len := (stp_is hR f wm).1
  have hql : stq R wm f g < R.len := stq_lt hR hg
  have HVL : Hid (floorV f (R.sz (stq R wm f g)) = .tuple #[.int .i64 (flq R wm f g), .int .i64 0]) := by
    have h2 : isT f && isS (R.sz (stq R wm f g)) := by rw [ht, sz_ok hR hql]; rfl
    unfold Hid floorV; rw [if_pos h2, if_pos h2]; rfl
  have HQ : Hid (((stq R wm f g : Nat) : Int) = max ((stp R f wm : Nat) : Int) (g : Int)) := by unfold Hid stq; omega
  unfold fateV
  obtain ⟨gn, Hgn⟩ := hid_ex (goneB R wm f)
  rw [← Hgn.out] at HE ⊢
  have HL : Hid (Lies R w.heap.size w) := hL
  rw [ha]
  have cz := (hcs _ hql).1
  clear hcs hL ha hF HK Hgn
  obtain ⟨fr, Hfr⟩ := hid_ex (flq R wm f g)
  rw [← Hfr.out] at HVL ⊢
  obtain ⟨q, Hq⟩ := hid_ex (stq R wm f g)
  rw [← Hq.out] at HVL HQ cz hql ⊢
  obtain ⟨p, Hp⟩ := hid_ex (stp R f wm)
  rw [← Hp.out] at HS HQ hsl
  obtain ⟨s, Hs⟩ := hid_ex (R.sz q)
  rw [← Hs.out] at HVL cz
  clear Hfr Hq Hp Hs
  obtain ⟨w2, HW2⟩ := hid_ex (((w.alloc (.cells #[.slice (some ⟨b, off, none⟩) R.len R.cap, .int .i64 R.kp] 24)).alloc (.cells #[.slice va vn vc, .int .i64 f, .int .i64 (g : Int)] 73)).alloc (.cells #[.int .i64 0, .int .i64 0, .bool false] 77))
  have HB2 : Hid (Below w.heap.size w w2) := by rw [HW2.out]; exact (((Below.refl _ _).alloc (Nat.le_refl _) _).alloc (by simp) _).alloc (by simp; omega) _
  have hx0 := (two_box (w := w) (x0 := .slice (some ⟨b, off, none⟩) R.len R.cap) (x1 := .int .i64 R.kp) (y0 := .slice va vn vc) (y1 := .int .i64 f) (y2 := .int .i64 (g : Int)) (t := 24) (u := 73))
  have hx2 : w2.heap[w.heap.size]? = some (.cells #[.slice (some ⟨b, off, none⟩) R.len R.cap, .int .i64 R.kp] 24) := by rw [HW2.out, Below.heap_alloc _ _ _ (by simp; omega)]; exact hx0.1
  have hx3 : w2.heap[w.heap.size + 1]? = some (.cells #[.slice va vn vc, .int .i64 f, .int .i64 (g : Int)] 73) := by rw [HW2.out, Below.heap_alloc _ _ _ (by simp)]; exact hx0.2
  have hx4 : w2.heap[w.heap.size + 1 + 1]? = some (.cells #[.int .i64 0, .int .i64 0, .bool false] 77) := by rw [HW2.out]; have := heap_alloc_new ((w.alloc (.cells #[.slice (some ⟨b, off, none⟩) R.len R.cap, .int .i64 R.kp] 24)).alloc (.cells #[.slice va vn vc, .int .i64 f, .int .i64 (g : Int)] 73)) (.cells #[.int .i64 0, .int .i64 0, .bool false] 77); simpa using this
  have HCZ : Hid (w2.cell? ⟨b, off + q * 2, none⟩ = some (.int .i64 s)) := (HB2.out.cell (p := ⟨b, off + q * 2, none⟩) hbl).trans cz
  have HBX : Hid (∀ W, Below w2.heap.size w2 W → W.cell? ⟨w.heap.size, 0, none⟩ = some (.slice (some ⟨b, off, none⟩) R.len R.cap) ∧ W.cell? ⟨w.heap.size, 1, none⟩ = some (.int .i64 R.kp) ∧ W.cell? ⟨w.heap.size + 1, 1, none⟩ = some (.int .i64 f) ∧ W.cell? ⟨w.heap.size + 1, 2, none⟩ = some (.int .i64 (g : Int)) ∧ W.cell? ⟨b, off + q * 2, none⟩ = some (.int .i64 s) ∧ Lies R W.heap.size W ∧ Below w.heap.size w W ∧ W.heap[w.heap.size + 1 + 1]? = some (.cells #[.int .i64 0, .int .i64 0, .bool false] 77)) := by
    intro W hW
    have l2 := (Array.getElem?_eq_some_iff.1 hx2).1
    have l3 := (Array.getElem?_eq_some_iff.1 hx3).1
    have l4 := (Array.getElem?_eq_some_iff.1 hx4).1
    have y2 := (hW.block _ l2).trans hx2
    have y3 := (hW.block _ l3).trans hx3
    refine ⟨by rw [Go.Joins.cell_of_block y2]; rfl, by rw [Go.Joins.cell_of_block y2]; rfl, by rw [Go.Joins.cell_of_block y3]; rfl, by rw [Go.Joins.cell_of_block y3]; rfl, (hW.cell (p := ⟨b, _, none⟩) (by show b < w2.heap.size; omega)).trans HCZ.out, HL.out.at (HB2.out.trans (hW.mono (by omega))), HB2.out.trans (hW.mono (by omega)), (hW.block _ l4).trans hx4⟩
  clear hx0 hx2 hx3 hx4 cz HCZ HL
  obtain ⟨k0, k1, k2, k3, _, hl2, _, _⟩ := HBX.out w2 (Below.refl _ _)
  go_enter Tryz.func21, Tryz.ntmps21
  go_wp2_with fail
  rw [← HW2.out]
  refine (HS.out _ hl2).mono ?_
  rintro e w3 ⟨rfl, hb3⟩
  obtain ⟨j0, j1, j2, j3, j4, hl3, _, _⟩ := HBX.out w3 hb3
  have HW3 : Hid (Below w2.heap.size w2 w3) := hb3
  clear k0 k1 k2 k3 hb3 hl2
  have hcase : (p < g ∧ q = g) ∨ (¬ p < g ∧ q = p) := by have := HQ.out; omega
  clear HQ
  rcases hcase with ⟨hpg, rfl⟩ | ⟨hpg, rfl⟩
  all_goals
    go_wp2_with fail
    go_quiet (exact (floor_any f s _).mono (fun e w h => ⟨by rw [h.1, HVL.out], _, h.2⟩))
    obtain ⟨w4, HW4⟩ := hid_ex (w3.drewN nq)
    have hb4 : Below w2.heap.size w2 w4 := by rw [HW4.out]; exact below_drewN HW3.out nq
    clear j0 j1 j2 j3 j4 hl3
    obtain ⟨k0, k1, k2, k3, _, hl4, _, _⟩ := HBX.out w4 hb4
    rw [← HW4.out]
    have HB4 : Hid _ := hb4
    clear HW4 hb4
    go_wp2_with fail
    refine (HE.out _ hl4).mono ?_
    rintro e w5 ⟨rfl, hb5⟩
    have hb5' := HB4.out.trans (hb5.mono HB4.out.size)
    obtain ⟨_, _, _, _, _, _, hb6, hx6⟩ := HBX.out w5 hb5'
    have HB6 : Hid _ := hb6
    have f0 := (cell_row hx6 0 (by simp)).2
    have f1 := (cell_row hx6 1 (by simp)).2
    have f2 := (cell_row hx6 2 (by simp)).2
    have g0 := (cell_row hx6 0 (by simp)).1
    have g1 := (cell_row hx6 1 (by simp)).1
    have g2 := (cell_row hx6 2 (by simp)).1
    clear k0 k1 k2 k3 hl4 hb5 hb5' hb6 hx6 HBX HS HE HW3 HB4
    go_wp2_with fail
    refine bodyPost_ret (v := .agg #[.int .i64 fr, .int .i64 (q : Int), .bool gn]) (by simp [results, Tryz.results21, go_sem, g0, g1, g2]) rfl ⟨rfl, ?_⟩
    exact ((HB6.out.setCell (by simp; omega) _).setCell (by simp; omega) _).setCell (by simp; omega) _
end Go.Proofs.YthicmbjiblbcmaaGreat

/- The contract of All. -/
namespace Go.Proofs.YthicmbjiblbcmaaGreat
open Go.RowKit

end Go.Proofs.YthicmbjiblbcmaaGreat
