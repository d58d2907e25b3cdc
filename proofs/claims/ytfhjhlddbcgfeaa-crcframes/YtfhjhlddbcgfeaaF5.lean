/- Lists of slices of bytes; the reference's Same. -/
import Derived.Test.YtfhjhlddbcgfeaaF4
namespace Go.Proofs.Ytfhjhlddbcgfeaa
open Go.RowKit

/-- A slice of slices reads these. -/
def LReads (w : World) (v : Value) (L : List (List UInt8)) : Prop :=
  ∃ a cap, v = .slice a L.length cap ∧ L.length ≤ cap ∧ cap ≤ maxLen ∧ (L = [] ∨ ∃ b off, a = some ⟨b, off, none⟩ ∧ b < w.heap.size ∧ ∀ j (hj : j < L.length), ∃ vj, w.cell? ⟨b, off + j, none⟩ = some vj ∧ Reads w vj L[j])
theorem LReads.below {w w' : World} {v : Value} {L : List (List UInt8)} (h : LReads w v L) (hb : Below w.heap.size w w') : LReads w' v L := by
  obtain ⟨a, cap, rfl, h1, h2, h3⟩ := h
  refine ⟨a, cap, rfl, h1, h2, ?_⟩
  rcases h3 with h3 | ⟨b, off, h4, h5, h6⟩
  · exact .inl h3
  · refine .inr ⟨b, off, h4, Nat.lt_of_lt_of_le h5 hb.size, fun j hj => ?_⟩
    obtain ⟨vj, g1, g2⟩ := h6 j hj
    exact ⟨vj, (hb.cell (p := ⟨b, off + j, none⟩) h5).trans g1, g2.below hb⟩
theorem LReads.take {w : World} {a : Option Addr} {n cap : Nat} {L : List (List UInt8)} (h : LReads w (.slice a n cap) L) {c : Nat} (hc : c ≤ L.length) : LReads w (.slice a c cap) (L.take c) := by
  obtain ⟨a', cap', hv, h1, h2, h3⟩ := h
  simp at hv
  obtain ⟨rfl, rfl, rfl⟩ := hv
  refine ⟨_, _, by rw [List.length_take, Nat.min_eq_left hc], by simp; omega, h2, ?_⟩
  rcases h3 with rfl | ⟨b, off, h4, h5, h6⟩
  · exact .inl (by simp)
  · refine .inr ⟨b, off, h4, h5, fun j hj => ?_⟩
    obtain ⟨vj, g1, g2⟩ := h6 j (by simp at hj; omega)
    exact ⟨vj, g1, by simpa using g2⟩
/-- What All hands back. -/
theorem LReads.of_row {w : World} {base base' : Nat} {vl : Value} {xs : List Fr} (h : w.ownsRow base 22 1 vl xs.length (xs.map Fr.v)) (ho : ∀ x ∈ xs, Own w base' x.v x.D) : LReads w vl (xs.map Fr.D) := by
  by_cases h0 : xs = []
  · subst h0
    rcases h.2 with ⟨h1, _⟩ | ⟨g, cap, cur, hv, hg, hw, hc, hm, _⟩
    · exact ⟨none, 0, by simpa using h1, by simp, by simp, .inl rfl⟩
    · exact ⟨_, cap, by simpa using hv, by simp, hm, .inl rfl⟩
  · have hl : 0 < xs.length := List.length_pos_iff.2 h0
    have hlt := World.ownsRow.lt h
    rcases h.2 with ⟨_, h1⟩ | ⟨g, cap, cur, hv, hg, hw, hc, hm, _⟩
    · omega
    · subst hv
      refine ⟨_, cap, by rw [List.length_map], by simpa using hc, hm, .inr ⟨g, 0, rfl, (hlt g rfl).2, fun j hj => ?_⟩⟩
      simp at hj
      refine ⟨xs[j].v, ?_, ?_⟩
      · rw [Nat.zero_add, World.ownsRow.cellAt h j (by simpa using hj)]; simp [hj]
      · rw [List.getElem_map]; exact (ho _ (List.getElem_mem hj)).reads
set_option maxRecDepth 100000 in
set_option maxHeartbeats 1000000 in
theorem same_any (va vb : Value) (A B : List (List UInt8)) (w : World) (ha : LReads w va A) (hb : LReads w vb B) :
    Calls Try.prog 21 #[va, vb] w fun e w' => e = .returned (.bool (decide (A = B))) ∧ Below w.heap.size w w' := by
  obtain ⟨a, ca, rfl, ha1, ha2, ha3⟩ := ha
  obtain ⟨b, cb, rfl, hb1, hb2, hb3⟩ := hb
  unfold maxLen at ha2 hb2
  by_cases hn : A.length = B.length
  · rw [hn] at ha1 ⊢
    have HA3 : Hid _ := ha3
    have HB3 : Hid _ := hb3
    have HN : Hid (A.length = B.length) := hn
    clear ha3 hb3 hn
    go_enter Try.func21, Try.ntmps21
    go_wp2_with fail
    go_loopw [5] (fun i wr => ∃ k : Nat, k ≤ B.length ∧ i = .int .i64 (k : Int) ∧ Hid (A.take k = B.take k) ∧ Hid (Below w.heap.size w wr)) (fun i _ => B.length - (intOf i).toNat)
    case atStart => exact ⟨0, by omega, rfl, rfl, Below.refl _ _⟩
    case round =>
      obtain ⟨k, hk, rfl, HT, HB⟩ := hrel
      by_cases hlt : k < B.length
      · have hltA : k < A.length := by rw [HN.out]; exact hlt
        obtain ⟨bA, oA, rfl, hbA, hA⟩ := HA3.out.resolve_left (fun h => by rw [h] at hltA; simp at hltA)
        obtain ⟨bB, oB, rfl, hbB, hB⟩ := HB3.out.resolve_left (fun h => by rw [h] at hlt; simp at hlt)
        obtain ⟨vx, hx1, hx2⟩ := hA k hltA
        obtain ⟨vy, hy1, hy2⟩ := hB k hlt
        obtain ⟨X, HX⟩ := hid_ex A[k]
        obtain ⟨Y, HY⟩ := hid_ex B[k]
        rw [← HX.out] at hx2
        rw [← HY.out] at hy2
        obtain ⟨ax, cx, rfl, _⟩ := hx2.form
        obtain ⟨ay, cy, rfl, _⟩ := hy2.form
        have HGX : Hid (∀ w', Below w.heap.size w w' → w'.cell? ⟨bA, oA + k, none⟩ = some (.slice ax X.length cx) ∧ Reads w' (.slice ax X.length cx) X) := fun w' h => ⟨(h.cell (p := ⟨bA, oA + k, none⟩) hbA).trans hx1, hx2.below h⟩
        have HGY : Hid (∀ w', Below w.heap.size w w' → w'.cell? ⟨bB, oB + k, none⟩ = some (.slice ay Y.length cy) ∧ Reads w' (.slice ay Y.length cy) Y) := fun w' h => ⟨(h.cell (p := ⟨bB, oB + k, none⟩) hbB).trans hy1, hy2.below h⟩
        clear hA hB hx1 hx2 hy1 hy2
        by_cases hXY : X = Y
        · subst hXY
          have HT2 : Hid (A.take (k + 1) = B.take (k + 1)) := by
            show A.take (k + 1) = B.take (k + 1)
            rw [List.take_add_one, List.take_add_one, HT.out, List.getElem?_eq_getElem hlt, List.getElem?_eq_getElem (by rw [HN.out]; exact hlt), ← HX.out, ← HY.out]
          clear HX HY HT hltA
          go_wp2_with fail
          refine wp_region_noPanic ?_
          refine wp_region_held_drew (S := (fun w' => Below w.heap.size w w')) (by kernel_rfl) ?_ (fun hHeld => ?_)
          · exact HB.out.drew
          refine wpAnyH_take (i := 0) (v := .slice (some ⟨bA, oA, none⟩) B.length ca) rfl (by kernel_rfl) (by kernel_rfl) (by kernel_rfl) (fun _ _ _ h => h) (Or.inl ⟨by rfl, ?_⟩) (by assumption) ?_
          · (intro w1 hSw; (try dsimp only at hSw); go_simp)
          simp only [List.getElem_toArray, List.getElem_cons_zero, Act.put, List.setIfInBounds_toArray, List.set_cons_zero, List.set_cons_succ]
          refine wpAnyH_take (i := 1) (v := .int .i64 (k : Int)) rfl (by kernel_rfl) (by kernel_rfl) (by kernel_rfl) (fun _ _ _ h => h) (Or.inl ⟨by rfl, ?_⟩) (by assumption) ?_
          · (intro w1 hSw; (try dsimp only at hSw); go_simp)
          simp only [List.getElem_toArray, List.getElem_cons_succ, List.getElem_cons_zero, Act.put, List.setIfInBounds_toArray, List.set_cons_zero, List.set_cons_succ]
          refine wpAnyH_take (i := 2) (v := .pointer (some ⟨bA, oA + k, none⟩)) rfl (by kernel_rfl) (by kernel_rfl) (by kernel_rfl) (fun _ _ _ h => h) (Or.inl ⟨by rfl, ?_⟩) (by assumption) ?_
          · (intro w1 hSw; (try dsimp only at hSw); go_simp)
          simp only [List.getElem_toArray, List.getElem_cons_succ, List.getElem_cons_zero, Act.put, List.setIfInBounds_toArray, List.set_cons_zero, List.set_cons_succ]
          refine wpAnyH_take (i := 3) (v := .slice ax X.length cx) rfl (by kernel_rfl) (by kernel_rfl) (by kernel_rfl) (fun _ _ _ h => h) (Or.inl ⟨by rfl, ?_⟩) (by assumption) ?_
          · (intro w1 hSw; (try dsimp only at hSw); have hcc := (HGX.out _ hSw).1; go_simp)
          simp only [List.getElem_toArray, List.getElem_cons_succ, List.getElem_cons_zero, Act.put, List.setIfInBounds_toArray, List.set_cons_zero, List.set_cons_succ]
          refine wpAnyH_take (i := 4) (v := .string ⟨X.toArray⟩) rfl (by kernel_rfl) (by kernel_rfl) (by kernel_rfl) (fun _ _ _ h => h) (Or.inl ⟨by rfl, ?_⟩) (by assumption) ?_
          · (intro w1 hSw; (try dsimp only at hSw); have hcv := reads_text (HGX.out _ hSw).2; go_simp)
          simp only [List.getElem_toArray, List.getElem_cons_succ, List.getElem_cons_zero, Act.put, List.setIfInBounds_toArray, List.set_cons_zero, List.set_cons_succ]
          refine wpAnyH_take (i := 5) (v := .slice (some ⟨bB, oB, none⟩) B.length cb) rfl (by kernel_rfl) (by kernel_rfl) (by kernel_rfl) (fun _ _ _ h => h) (Or.inl ⟨by rfl, ?_⟩) (by assumption) ?_
          · (intro w1 hSw; (try dsimp only at hSw); go_simp)
          simp only [List.getElem_toArray, List.getElem_cons_succ, List.getElem_cons_zero, Act.put, List.setIfInBounds_toArray, List.set_cons_zero, List.set_cons_succ]
          refine wpAnyH_take (i := 6) (v := .int .i64 (k : Int)) rfl (by kernel_rfl) (by kernel_rfl) (by kernel_rfl) (fun _ _ _ h => h) (Or.inl ⟨by rfl, ?_⟩) (by assumption) ?_
          · (intro w1 hSw; (try dsimp only at hSw); go_simp)
          simp only [List.getElem_toArray, List.getElem_cons_succ, List.getElem_cons_zero, Act.put, List.setIfInBounds_toArray, List.set_cons_zero, List.set_cons_succ]
          refine wpAnyH_take (i := 7) (v := .pointer (some ⟨bB, oB + k, none⟩)) rfl (by kernel_rfl) (by kernel_rfl) (by kernel_rfl) (fun _ _ _ h => h) (Or.inl ⟨by rfl, ?_⟩) (by assumption) ?_
          · (intro w1 hSw; (try dsimp only at hSw); go_simp)
          simp only [List.getElem_toArray, List.getElem_cons_succ, List.getElem_cons_zero, Act.put, List.setIfInBounds_toArray, List.set_cons_zero, List.set_cons_succ]
          refine wpAnyH_take (i := 8) (v := .slice ay X.length cy) rfl (by kernel_rfl) (by kernel_rfl) (by kernel_rfl) (fun _ _ _ h => h) (Or.inl ⟨by rfl, ?_⟩) (by assumption) ?_
          · (intro w1 hSw; (try dsimp only at hSw); have hcc := (HGY.out _ hSw).1; go_simp)
          simp only [List.getElem_toArray, List.getElem_cons_succ, List.getElem_cons_zero, Act.put, List.setIfInBounds_toArray, List.set_cons_zero, List.set_cons_succ]
          refine wpAnyH_take (i := 9) (v := .string ⟨X.toArray⟩) rfl (by kernel_rfl) (by kernel_rfl) (by kernel_rfl) (fun _ _ _ h => h) (Or.inl ⟨by rfl, ?_⟩) (by assumption) ?_
          · (intro w1 hSw; (try dsimp only at hSw); have hcv := reads_text (HGY.out _ hSw).2; go_simp)
          simp only [List.getElem_toArray, List.getElem_cons_succ, List.getElem_cons_zero, Act.put, List.setIfInBounds_toArray, List.set_cons_zero, List.set_cons_succ]
          refine wpAnyH_take (i := 10) (v := .bool false) rfl (by kernel_rfl) (by kernel_rfl) (by kernel_rfl) (fun _ _ _ h => h) (Or.inl ⟨by rfl, ?_⟩) (by assumption) ?_
          · (intro w1 hSw; (try dsimp only at hSw); go_simp)
          simp only [List.getElem_toArray, List.getElem_cons_succ, List.getElem_cons_zero, Act.put, List.setIfInBounds_toArray, List.set_cons_zero, List.set_cons_succ]
          refine wpAnyH_done (by kernel_rfl) ?_ _
          refine NoPanic.normal ?_
          have HB9 : Hid (Below w.heap.size w _) := hHeld
          clear hHeld
          go_wp2_with fail
          go_roundw
          case rel => exact ⟨k + 1, by omega, by simp, HT2, HB9⟩
          case measure => simp [intOf]; omega
        · have hne : (X == Y) = false := by simpa using hXY
          have HDE : Hid (decide (A = B) = false) := by
            show decide (A = B) = false
            simp only [decide_eq_false_iff_not]
            intro h
            apply hXY
            rw [HX.out, HY.out]
            simp [h]
          clear HX HY HT hXY hltA
          go_wp2_with fail
          refine wp_region_noPanic ?_
          refine wp_region_held_drew (S := (fun w' => Below w.heap.size w w')) (by kernel_rfl) ?_ (fun hHeld => ?_)
          · exact HB.out.drew
          refine wpAnyH_take (i := 0) (v := .slice (some ⟨bA, oA, none⟩) B.length ca) rfl (by kernel_rfl) (by kernel_rfl) (by kernel_rfl) (fun _ _ _ h => h) (Or.inl ⟨by rfl, ?_⟩) (by assumption) ?_
          · (intro w1 hSw; (try dsimp only at hSw); go_simp)
          simp only [List.getElem_toArray, List.getElem_cons_zero, Act.put, List.setIfInBounds_toArray, List.set_cons_zero, List.set_cons_succ]
          refine wpAnyH_take (i := 1) (v := .int .i64 (k : Int)) rfl (by kernel_rfl) (by kernel_rfl) (by kernel_rfl) (fun _ _ _ h => h) (Or.inl ⟨by rfl, ?_⟩) (by assumption) ?_
          · (intro w1 hSw; (try dsimp only at hSw); go_simp)
          simp only [List.getElem_toArray, List.getElem_cons_succ, List.getElem_cons_zero, Act.put, List.setIfInBounds_toArray, List.set_cons_zero, List.set_cons_succ]
          refine wpAnyH_take (i := 2) (v := .pointer (some ⟨bA, oA + k, none⟩)) rfl (by kernel_rfl) (by kernel_rfl) (by kernel_rfl) (fun _ _ _ h => h) (Or.inl ⟨by rfl, ?_⟩) (by assumption) ?_
          · (intro w1 hSw; (try dsimp only at hSw); go_simp)
          simp only [List.getElem_toArray, List.getElem_cons_succ, List.getElem_cons_zero, Act.put, List.setIfInBounds_toArray, List.set_cons_zero, List.set_cons_succ]
          refine wpAnyH_take (i := 3) (v := .slice ax X.length cx) rfl (by kernel_rfl) (by kernel_rfl) (by kernel_rfl) (fun _ _ _ h => h) (Or.inl ⟨by rfl, ?_⟩) (by assumption) ?_
          · (intro w1 hSw; (try dsimp only at hSw); have hcc := (HGX.out _ hSw).1; go_simp)
          simp only [List.getElem_toArray, List.getElem_cons_succ, List.getElem_cons_zero, Act.put, List.setIfInBounds_toArray, List.set_cons_zero, List.set_cons_succ]
          refine wpAnyH_take (i := 4) (v := .string ⟨X.toArray⟩) rfl (by kernel_rfl) (by kernel_rfl) (by kernel_rfl) (fun _ _ _ h => h) (Or.inl ⟨by rfl, ?_⟩) (by assumption) ?_
          · (intro w1 hSw; (try dsimp only at hSw); have hcv := reads_text (HGX.out _ hSw).2; go_simp)
          simp only [List.getElem_toArray, List.getElem_cons_succ, List.getElem_cons_zero, Act.put, List.setIfInBounds_toArray, List.set_cons_zero, List.set_cons_succ]
          refine wpAnyH_take (i := 5) (v := .slice (some ⟨bB, oB, none⟩) B.length cb) rfl (by kernel_rfl) (by kernel_rfl) (by kernel_rfl) (fun _ _ _ h => h) (Or.inl ⟨by rfl, ?_⟩) (by assumption) ?_
          · (intro w1 hSw; (try dsimp only at hSw); go_simp)
          simp only [List.getElem_toArray, List.getElem_cons_succ, List.getElem_cons_zero, Act.put, List.setIfInBounds_toArray, List.set_cons_zero, List.set_cons_succ]
          refine wpAnyH_take (i := 6) (v := .int .i64 (k : Int)) rfl (by kernel_rfl) (by kernel_rfl) (by kernel_rfl) (fun _ _ _ h => h) (Or.inl ⟨by rfl, ?_⟩) (by assumption) ?_
          · (intro w1 hSw; (try dsimp only at hSw); go_simp)
          simp only [List.getElem_toArray, List.getElem_cons_succ, List.getElem_cons_zero, Act.put, List.setIfInBounds_toArray, List.set_cons_zero, List.set_cons_succ]
          refine wpAnyH_take (i := 7) (v := .pointer (some ⟨bB, oB + k, none⟩)) rfl (by kernel_rfl) (by kernel_rfl) (by kernel_rfl) (fun _ _ _ h => h) (Or.inl ⟨by rfl, ?_⟩) (by assumption) ?_
          · (intro w1 hSw; (try dsimp only at hSw); go_simp)
          simp only [List.getElem_toArray, List.getElem_cons_succ, List.getElem_cons_zero, Act.put, List.setIfInBounds_toArray, List.set_cons_zero, List.set_cons_succ]
          refine wpAnyH_take (i := 8) (v := .slice ay Y.length cy) rfl (by kernel_rfl) (by kernel_rfl) (by kernel_rfl) (fun _ _ _ h => h) (Or.inl ⟨by rfl, ?_⟩) (by assumption) ?_
          · (intro w1 hSw; (try dsimp only at hSw); have hcc := (HGY.out _ hSw).1; go_simp)
          simp only [List.getElem_toArray, List.getElem_cons_succ, List.getElem_cons_zero, Act.put, List.setIfInBounds_toArray, List.set_cons_zero, List.set_cons_succ]
          refine wpAnyH_take (i := 9) (v := .string ⟨Y.toArray⟩) rfl (by kernel_rfl) (by kernel_rfl) (by kernel_rfl) (fun _ _ _ h => h) (Or.inl ⟨by rfl, ?_⟩) (by assumption) ?_
          · (intro w1 hSw; (try dsimp only at hSw); have hcv := reads_text (HGY.out _ hSw).2; go_simp)
          simp only [List.getElem_toArray, List.getElem_cons_succ, List.getElem_cons_zero, Act.put, List.setIfInBounds_toArray, List.set_cons_zero, List.set_cons_succ]
          refine wpAnyH_take (i := 10) (v := .bool true) rfl (by kernel_rfl) (by kernel_rfl) (by kernel_rfl) (fun _ _ _ h => h) (Or.inl ⟨by rfl, ?_⟩) (by assumption) ?_
          · (intro w1 hSw; (try dsimp only at hSw); go_simp)
          simp only [List.getElem_toArray, List.getElem_cons_succ, List.getElem_cons_zero, Act.put, List.setIfInBounds_toArray, List.set_cons_zero, List.set_cons_succ]
          refine wpAnyH_done (by kernel_rfl) ?_ _
          refine NoPanic.normal ?_
          have HB9 : Hid (Below w.heap.size w _) := hHeld
          clear hHeld
          go_wp2_with fail
          go_ret
          exact ⟨by rw [HDE.out]; rfl, HB9.out⟩
      · have hke : k = B.length := by omega
        have HDE : Hid (decide (A = B) = true) := by
          show decide (A = B) = true
          simp only [decide_eq_true_eq]
          have h := HT.out
          rw [hke, List.take_length, ← HN.out, List.take_length] at h
          exact h
        subst hke
        clear HT
        go_wp2_with fail
        go_ret
        exact ⟨by rw [HDE.out]; rfl, HB.out⟩
  · have hn1 : ((A.length : Int) == (B.length : Int)) = false := by simpa using (by omega : ¬ (A.length : Int) = B.length)
    have hn2 : decide (A = B) = false := by simpa using fun h => hn (by rw [h])
    rw [hn2]
    clear ha3 hb3 hn2
    go_enter Try.func21, Try.ntmps21
    go_wp2_with fail
    go_ret
    exact ⟨rfl, Below.refl _ _⟩
end Go.Proofs.Ytfhjhlddbcgfeaa
