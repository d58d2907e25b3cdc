/- WidePrints' walk. -/
import Derived.Test.YtldbglkapopbiaaXE3
import Derived.Test.YtldbglkapopbiaaW9
namespace Go.Proofs.Ytldbglkapopbiaa
open Go.RowKit

def QBp (p q : Int) (b : Nat) (w : World) : Prop := b < w.heap.size ∧ w.cell? ⟨b, 0, none⟩ = some (.int .i64 p) ∧ w.cell? ⟨b, 1, none⟩ = some (.int .u64 q)
theorem QBp.below {p q : Int} {b : Nat} {w1 w2 : World} (h : QBp p q b w1) (hb : Below w1.heap.size w1 w2) : QBp p q b w2 := by
  have := hb.size
  exact ⟨by have := h.1; omega, (hb.cell (p := ⟨b, 0, none⟩) h.1).trans h.2.1, (hb.cell (p := ⟨b, 1, none⟩) h.1).trans h.2.2⟩
theorem QBp.new (p q : Int) (w : World) (t : TypeId) : QBp p q w.heap.size (w.alloc (.cells #[.int .i64 p, .int .u64 q] t)) := ⟨by simp, by simp [go_sem], by simp [go_sem]⟩
theorem alBelowP (w : World) (o : Obj) : Below w.heap.size w (w.alloc o) := (Below.refl _ _).alloc (Nat.le_refl _) _
set_option maxRecDepth 100000 in
set_option maxHeartbeats 8000000 in
theorem prints_walk (x : Int) (s : ByteArray) (w : World) (x1 : -170141183460469231731687303715884105728 ≤ x) (x2 : x < 170141183460469231731687303715884105728) (hs : s.size ≤ maxLen) :
    Calls Try.prog 4 #[.agg #[.int .i64 (hi x), .int .u64 (lo x)], .string s] w fun e w' => e = .returned (.bool true) ∧ Below w.heap.size w w' := by
  have HS := (show Hid _ from hs)
  unfold maxLen at hs
  by_cases hl : s.size ≤ 200
  · have hl' : (s.size : Int) ≤ 200 := by omega
    go_enter Try.func4, Try.ntmps4
    go_wp2_with fail
    refine (parse_RP s HS.out _).mono ?_
    rintro e w1 ⟨⟨y, ye, hrp, rfl⟩, b1⟩
    have HRP := (show Hid _ from hrp)
    have BX1 : Hid (QBp (hi x) (lo x) w.heap.size w1) := QBp.below (QBp.new _ _ _ _) b1
    have HB1 : Hid (Below w.heap.size w w1) := (alBelowP w _).trans (b1.mono (by simp))
    clear b1 hrp
    unfold wv
    go_wp2_with fail
    obtain ⟨w2, H2⟩ := hid_exd (w1.alloc (.cells #[.int .i64 (hi y), .int .u64 (lo y)] 24))
    rw [← H2.out]
    have BX2 : Hid (QBp (hi x) (lo x) w.heap.size w2) := by rw [H2.out]; exact BX1.out.below (alBelowP _ _)
    have P2 : Hid (QBp (hi y) (lo y) w1.heap.size w2) := by rw [H2.out]; exact QBp.new _ _ _ _
    have HB2 : Hid (Below w.heap.size w w2) := by rw [H2.out]; exact HB1.out.alloc HB1.out.size _
    clear H2 BX1 HB1
    refine (refParse_any s hl _).mono ?_
    rintro e w3 ⟨⟨z, ze, hrp, rfl⟩, b3⟩
    obtain ⟨rfl, rfl⟩ := RP.uni HRP.out hrp
    have BX3 : Hid (QBp (hi x) (lo x) w.heap.size w3) := BX2.out.below b3
    have P3 : Hid (QBp (hi y) (lo y) w1.heap.size w3) := P2.out.below b3
    have HB3 : Hid (Below w.heap.size w w3) := HB2.out.trans (b3.mono HB2.out.size)
    clear b3 hrp BX2 P2 HB2 HRP
    unfold wv
    go_wp2_with fail
    obtain ⟨w4, H4⟩ := hid_exd (w3.alloc (.cells #[.int .i64 (hi y), .int .u64 (lo y)] 24))
    rw [← H4.out]
    have BX4 : Hid (QBp (hi x) (lo x) w.heap.size w4) := by rw [H4.out]; exact BX3.out.below (alBelowP _ _)
    have P4 : Hid (QBp (hi y) (lo y) w1.heap.size w4) := by rw [H4.out]; exact P3.out.below (alBelowP _ _)
    have Q4 : Hid (QBp (hi y) (lo y) w3.heap.size w4) := by rw [H4.out]; exact QBp.new _ _ _ _
    have HB4 : Hid (Below w.heap.size w w4) := by rw [H4.out]; exact HB3.out.alloc HB3.out.size _
    clear H4 BX3 P3 HB3
    refine wp_region_noPanic ?_
    refine wp_region_held_drew (S := (fun w' => Below w.heap.size w w' ∧ QBp (hi x) (lo x) w.heap.size w' ∧ QBp (hi y) (lo y) w1.heap.size w' ∧ QBp (hi y) (lo y) w3.heap.size w')) (by kernel_rfl) ?_ (fun hHeld => ?_)
    · exact ⟨HB4.out.drew, BX4.out.below ⟨rfl, rfl, rfl, Nat.le_refl _, fun _ _ => rfl⟩, P4.out.below ⟨rfl, rfl, rfl, Nat.le_refl _, fun _ _ => rfl⟩, Q4.out.below ⟨rfl, rfl, rfl, Nat.le_refl _, fun _ _ => rfl⟩⟩
    refine wpAnyH_ready (rs := [0]) (by kernel_rfl) (by simp) ?_
    refine AllReadyH.cons (o := _) rfl (fun K hK => ?_) AllReadyH.nil
    go_simp
    refine (alive_any _).mono ?_
    rintro e wb ⟨rfl, bb⟩
    go_wp2_with fail
    refine hK.out _ _ ?_ (fun hHeld => ?_)
    · exact ⟨hHeld.1.trans (bb.mono hHeld.1.size), hHeld.2.1.below bb, hHeld.2.2.1.below bb, hHeld.2.2.2.below bb⟩
    clear hK K
    clear bb
    refine wpAnyH_take (i := 1) (v := .bool true) rfl (by kernel_rfl) (by kernel_rfl) (by kernel_rfl) (fun _ _ _ h => h) (Or.inl ⟨by rfl, ?_⟩) (by assumption) ?_
    · (intro w1 hSw; (try dsimp only at hSw); go_simp)
    simp only [List.getElem_toArray, List.getElem_cons_succ, List.getElem_cons_zero, Act.put, List.setIfInBounds_toArray, List.set_cons_zero, List.set_cons_succ]
    refine wpAnyH_take (i := 2) (v := .agg #[.int .i64 (hi x), .int .u64 (lo x)]) rfl (by kernel_rfl) (by kernel_rfl) (by kernel_rfl) (fun _ _ _ h => h) (Or.inl ⟨by rfl, ?_⟩) (by assumption) ?_
    · (intro w1 hSw; (try dsimp only at hSw); have q0 := hSw.2.1.2.1; have q1 := hSw.2.1.2.2; go_simp)
    simp only [List.getElem_toArray, List.getElem_cons_succ, List.getElem_cons_zero, Act.put, List.setIfInBounds_toArray, List.set_cons_zero, List.set_cons_succ]
    refine wpAnyH_take (i := 4) (v := .agg #[.int .i64 (hi x), .int .u64 (lo x)]) rfl (by kernel_rfl) (by kernel_rfl) (by kernel_rfl) (fun _ _ _ h => h) (Or.inl ⟨by rfl, ?_⟩) (by assumption) ?_
    · (intro w1 hSw; (try dsimp only at hSw); have q0 := hSw.2.1.2.1; have q1 := hSw.2.1.2.2; go_simp)
    simp only [List.getElem_toArray, List.getElem_cons_succ, List.getElem_cons_zero, Act.put, List.setIfInBounds_toArray, List.set_cons_zero, List.set_cons_succ]
    refine wpAnyH_ready (rs := [3]) (by kernel_rfl) (by simp) ?_
    refine AllReadyH.cons (o := _) rfl (fun K hK => ?_) AllReadyH.nil
    go_simp
    refine (print_any x x1 x2 _).mono ?_
    rintro e wc ⟨rfl, bc1⟩
    go_wp2_with fail
    refine hK.out _ _ ?_ (fun hHeld => ?_)
    · exact ⟨hHeld.1.trans (bc1.mono hHeld.1.size), hHeld.2.1.below bc1, hHeld.2.2.1.below bc1, hHeld.2.2.2.below bc1⟩
    clear hK K
    clear bc1
    refine wpAnyH_ready (rs := [5]) (by kernel_rfl) (by simp) ?_
    refine AllReadyH.cons (o := _) rfl (fun K hK => ?_) AllReadyH.nil
    go_simp
    refine (refPrint_any x x1 x2 _).mono ?_
    rintro e wd ⟨rfl, bd1⟩
    go_wp2_with fail
    refine hK.out _ _ ?_ (fun hHeld => ?_)
    · exact ⟨hHeld.1.trans (bd1.mono hHeld.1.size), hHeld.2.1.below bd1, hHeld.2.2.1.below bd1, hHeld.2.2.2.below bd1⟩
    clear hK K
    clear bd1
    refine wpAnyH_take (i := 6) (v := .bool true) rfl (by kernel_rfl) (by kernel_rfl) (by kernel_rfl) (fun _ _ _ h => h) (Or.inl ⟨by rfl, ?_⟩) (by assumption) ?_
    · (intro w1 hSw; (try dsimp only at hSw); go_simp)
    simp only [List.getElem_toArray, List.getElem_cons_succ, List.getElem_cons_zero, Act.put, List.setIfInBounds_toArray, List.set_cons_zero, List.set_cons_succ]
    refine wpAnyH_take (i := 7) (v := .bool true) rfl (by kernel_rfl) (by kernel_rfl) (by kernel_rfl) (fun _ _ _ h => h) (Or.inl ⟨by rfl, ?_⟩) (by assumption) ?_
    · (intro w1 hSw; (try dsimp only at hSw); go_simp)
    simp only [List.getElem_toArray, List.getElem_cons_succ, List.getElem_cons_zero, Act.put, List.setIfInBounds_toArray, List.set_cons_zero, List.set_cons_succ]
    refine wpAnyH_take (i := 8) (v := .bool true) rfl (by kernel_rfl) (by kernel_rfl) (by kernel_rfl) (fun _ _ _ h => h) (Or.inl ⟨by rfl, ?_⟩) (by assumption) ?_
    · (intro w1 hSw; (try dsimp only at hSw); go_simp)
    simp only [List.getElem_toArray, List.getElem_cons_succ, List.getElem_cons_zero, Act.put, List.setIfInBounds_toArray, List.set_cons_zero, List.set_cons_succ]
    refine wpAnyH_take (i := 9) (v := .agg #[.int .i64 (hi y), .int .u64 (lo y)]) rfl (by kernel_rfl) (by kernel_rfl) (by kernel_rfl) (fun _ _ _ h => h) (Or.inl ⟨by rfl, ?_⟩) (by assumption) ?_
    · (intro w1 hSw; (try dsimp only at hSw); have q0 := hSw.2.2.1.2.1; have q1 := hSw.2.2.1.2.2; go_simp)
    simp only [List.getElem_toArray, List.getElem_cons_succ, List.getElem_cons_zero, Act.put, List.setIfInBounds_toArray, List.set_cons_zero, List.set_cons_succ]
    refine wpAnyH_take (i := 10) (v := .agg #[.int .i64 (hi y), .int .u64 (lo y)]) rfl (by kernel_rfl) (by kernel_rfl) (by kernel_rfl) (fun _ _ _ h => h) (Or.inl ⟨by rfl, ?_⟩) (by assumption) ?_
    · (intro w1 hSw; (try dsimp only at hSw); have q0 := hSw.2.2.2.2.1; have q1 := hSw.2.2.2.2.2; go_simp)
    simp only [List.getElem_toArray, List.getElem_cons_succ, List.getElem_cons_zero, Act.put, List.setIfInBounds_toArray, List.set_cons_zero, List.set_cons_succ]
    refine wpAnyH_take (i := 11) (v := .bool true) rfl (by kernel_rfl) (by kernel_rfl) (by kernel_rfl) (fun _ _ _ h => h) (Or.inl ⟨by rfl, ?_⟩) (by assumption) ?_
    · (intro w1 hSw; (try dsimp only at hSw); go_simp)
    simp only [List.getElem_toArray, List.getElem_cons_succ, List.getElem_cons_zero, Act.put, List.setIfInBounds_toArray, List.set_cons_zero, List.set_cons_succ]
    refine wpAnyH_take (i := 12) (v := .bool true) rfl (by kernel_rfl) (by kernel_rfl) (by kernel_rfl) (fun _ _ _ h => h) (Or.inl ⟨by rfl, ?_⟩) (by assumption) ?_
    · (intro w1 hSw; (try dsimp only at hSw); go_simp)
    simp only [List.getElem_toArray, List.getElem_cons_succ, List.getElem_cons_zero, Act.put, List.setIfInBounds_toArray, List.set_cons_zero, List.set_cons_succ]
    refine wpAnyH_take (i := 13) (v := .bool true) rfl (by kernel_rfl) (by kernel_rfl) (by kernel_rfl) (fun _ _ _ h => h) (Or.inl ⟨by rfl, ?_⟩) (by assumption) ?_
    · (intro w1 hSw; (try dsimp only at hSw); go_simp)
    simp only [List.getElem_toArray, List.getElem_cons_succ, List.getElem_cons_zero, Act.put, List.setIfInBounds_toArray, List.set_cons_zero, List.set_cons_succ]
    refine wpAnyH_take (i := 14) (v := .int .i64 ye) rfl (by kernel_rfl) (by kernel_rfl) (by kernel_rfl) (fun _ _ _ h => h) (Or.inl ⟨by rfl, ?_⟩) (by assumption) ?_
    · (intro w1 hSw; (try dsimp only at hSw); go_simp)
    simp only [List.getElem_toArray, List.getElem_cons_succ, List.getElem_cons_zero, Act.put, List.setIfInBounds_toArray, List.set_cons_zero, List.set_cons_succ]
    refine wpAnyH_take (i := 15) (v := .int .i64 ye) rfl (by kernel_rfl) (by kernel_rfl) (by kernel_rfl) (fun _ _ _ h => h) (Or.inl ⟨by rfl, ?_⟩) (by assumption) ?_
    · (intro w1 hSw; (try dsimp only at hSw); go_simp)
    simp only [List.getElem_toArray, List.getElem_cons_succ, List.getElem_cons_zero, Act.put, List.setIfInBounds_toArray, List.set_cons_zero, List.set_cons_succ]
    refine wpAnyH_take (i := 16) (v := .bool true) rfl (by kernel_rfl) (by kernel_rfl) (by kernel_rfl) (fun _ _ _ h => h) (Or.inl ⟨by rfl, ?_⟩) (by assumption) ?_
    · (intro w1 hSw; (try dsimp only at hSw); go_simp)
    simp only [List.getElem_toArray, List.getElem_cons_succ, List.getElem_cons_zero, Act.put, List.setIfInBounds_toArray, List.set_cons_zero, List.set_cons_succ]
    refine wpAnyH_take (i := 17) (v := .bool true) rfl (by kernel_rfl) (by kernel_rfl) (by kernel_rfl) (fun _ _ _ h => h) (Or.inl ⟨by rfl, ?_⟩) (by assumption) ?_
    · (intro w1 hSw; (try dsimp only at hSw); go_simp)
    simp only [List.getElem_toArray, List.getElem_cons_succ, List.getElem_cons_zero, Act.put, List.setIfInBounds_toArray, List.set_cons_zero, List.set_cons_succ]
    refine wpAnyH_take (i := 18) (v := .bool true) rfl (by kernel_rfl) (by kernel_rfl) (by kernel_rfl) (fun _ _ _ h => h) (Or.inl ⟨by rfl, ?_⟩) (by assumption) ?_
    · (intro w1 hSw; (try dsimp only at hSw); go_simp)
    simp only [List.getElem_toArray, List.getElem_cons_succ, List.getElem_cons_zero, Act.put, List.setIfInBounds_toArray, List.set_cons_zero, List.set_cons_succ]
    refine wpAnyH_done (by kernel_rfl) ?_ _
    refine NoPanic.normal ?_
    go_wp2_with fail
    go_ret
    exact ⟨rfl, hHeld.1⟩
  · have hl' : ¬ (s.size : Int) ≤ 200 := by omega
    go_enter Try.func4, Try.ntmps4
    go_wp2_with fail
    refine (alive_any _).mono ?_
    rintro e w7 ⟨rfl, hb2⟩
    have HB7 : Hid (Below w.heap.size w w7) := (alBelowP w _).trans (hb2.mono (by simp))
    clear hb2
    go_wp2_with fail
    go_ret
    exact ⟨rfl, HB7.out⟩
end Go.Proofs.Ytldbglkapopbiaa
