/- V6 F4 B9 TN6, joined. -/
import Derived.Test.YtgjbnampjgpmfaaTB4
import Derived.Test.YtgjbnampjgpmfaaTB11
import Derived.Test.YtgjbnampjgpmfaaTB13
import Derived.Test.YtgjbnampjgpmfaaTB16
import Derived.Test.YtgjbnampjgpmfaaTB18
import Derived.Test.YtgjbnampjgpmfaaTB24
import Derived.Lib.SmallJoins
/- What the fixed calls of layer 5's 'alive' come to; the reference's Copy. -/
namespace Go.Proofs.Ytgjbnampjgpmfaa
open Go.RowKit Go.Joins

theorem nine : mor 0 [49, 50, 51, 52, 53, 54, 55, 56, 57] = 3808858755 := by decide +kernel
end Go.Proofs.Ytgjbnampjgpmfaa

/- Of frames one behind the other; crc.All. -/
namespace Go.Proofs.Ytgjbnampjgpmfaa
open Go.RowKit

theorem vle_four' (n : Nat) (h : n < 4294967296) : vle (four n) = n := by
  simp only [four, vle, UInt8.toNat_ofNat']
  omega
theorem nx_frm (l m : List UInt8) (hl : l.length ≤ 65535) : nxF (frm l ++ m) = (l, l.length + 8, 0) := by
  have e1 : frm l ++ m = four l.length ++ (l ++ (four (mor 0 (four l.length ++ l)) ++ m)) := by unfold frm; simp [List.append_assoc]
  have e4 : (frm l ++ m).take 4 = four l.length := by rw [e1]; rfl
  have e5 : (frm l ++ m).drop 4 = l ++ (four (mor 0 (four l.length ++ l)) ++ m) := by rw [e1]; rfl
  have e6 : (frm l ++ m).take (4 + l.length) = four l.length ++ l := by
    have : (frm l ++ m) = (four l.length ++ l) ++ (four (mor 0 (four l.length ++ l)) ++ m) := by rw [e1]; simp [List.append_assoc]
    rw [this, List.take_append_of_le_length (by simp [four_len]), List.take_of_length_le (by simp [four_len])]
  have e7 : ((frm l ++ m).drop (4 + l.length)).take 4 = four (mor 0 (four l.length ++ l)) := by
    rw [← List.drop_drop, e5, List.drop_left]; rfl
  have hlen : (frm l ++ m).length = l.length + 8 + m.length := by rw [List.length_append, frm_len]
  unfold nxF
  rw [e4, vle_four' _ (by omega), if_neg (by omega), if_neg (by omega), if_neg (by omega), e7, vle_four' _ (mor_lt _ _), e6, if_neg (by simp), e5, List.take_left]
theorem alF_frm (k : Nat) (l m : List UInt8) (hl : l.length ≤ 65535) : alF (k + 1) (frm l ++ m) = (l, l.length + 8) :: alF k m := by
  rw [alF, nx_frm l m hl, if_pos rfl]
  show _ :: alF k ((frm l ++ m).drop (l.length + 8)) = _
  rw [← frm_len, List.drop_left]
theorem all_any (v : Value) (bs : List UInt8) (hbl : bs.length ≤ 1000000) (w : World) (hR : Reads w v bs) :
    Calls Try.prog 32 #[v] w fun e W' => ∃ (vl : Value) (xs : List Fr), e = .returned (.tuple #[vl, .int .i64 (ksum (alF (bs.length + 1) bs) : Nat)]) ∧ xs.map Fr.p = alF (bs.length + 1) bs ∧ W'.ownsRow w.heap.size 22 1 vl xs.length (xs.map Fr.v) ∧ (∀ x ∈ xs, Own W' w.heap.size x.v x.D) ∧ Below w.heap.size w W' :=
  callsIn_wide.1 (all_in 5 (by decide) v bs hbl w hR)
/-- What a list of slices holds. -/
theorem row_at {w : World} {base : Nat} {vl : Value} {xs : List Value} (h : w.ownsRow base 22 1 vl xs.length xs) (h0 : 0 < xs.length) :
    ∃ g cap, vl = .slice (some ⟨g, 0, none⟩) xs.length cap ∧ xs.length ≤ cap ∧ g < w.heap.size ∧ ∀ j (hj : j < xs.length), w.cell? ⟨g, j, none⟩ = some xs[j] := by
  have hlt := World.ownsRow.lt h
  rcases h.2 with ⟨_, h1⟩ | ⟨g, cap, cur, hv, hg, hw, hc, hm, _⟩
  · omega
  · subst hv
    refine ⟨g, cap, rfl, hc, (hlt g rfl).2, fun j hj => ?_⟩
    rw [World.ownsRow.cellAt h j (by simpa using hj)]
    simp [hj]
end Go.Proofs.Ytgjbnampjgpmfaa

/- The contract of bloom's Read. -/
namespace Go.Proofs.Ytgjbnampjgpmfaa
open Go.RowKit

def rdOk (l : List UInt8) : Prop := 2 ≤ l.length ∧ l.length ≤ 8193 ∧ 1 ≤ (l.getD 0 0).toNat ∧ (l.getD 0 0).toNat ≤ 8
set_option maxRecDepth 100000 in
set_option maxHeartbeats 1000000 in
theorem read_ok (v : Value) (l : List UInt8) (w : World) (hR : Reads w v l) (hok : rdOk l) :
    Calls Try.prog 34 #[v] w fun e w' => ∃ v', e = .returned (.tuple #[v', .int .i64 0]) ∧ Fil w' w.heap.size v' (l.getD 0 0).toNat (l.drop 1) ∧ Below w.heap.size w w' := by
  obtain ⟨h1, h2, h3, h4⟩ := hok
  obtain ⟨h, Hh⟩ := hid_ex (l.getD 0 0).toNat
  rw [← Hh.out] at h3 h4 ⊢
  rcases hR with ⟨rfl, _⟩ | ⟨b, off, cap, rfl, r2, r3, r4, r5, r6⟩
  · simp at h1
  have HR : Hid (Reads w (.slice (some ⟨b, off, none⟩) l.length cap) l) := .inr ⟨b, off, cap, rfl, r2, r3, r4, r5, r6⟩
  have c0 := r6 0 (by omega)
  have e0 : bc l[0] = .int .u8 (h : Int) := by
    rw [Hh.out]; simp [bc, List.getD, List.getElem?_eq_getElem (show 0 < l.length by omega)]
  rw [e0, Nat.add_zero] at c0
  unfold maxLen at r4
  clear r6 e0
  have HM : Hid _ := mayHash_any (h : Int)
  have em : decide (1 ≤ (h : Int) ∧ (h : Int) ≤ 8) = true := by simp; omega
  rw [em] at HM
  clear em
  obtain ⟨i0, hi, hz0, hz1, hz2⟩ := info_parts info5
  obtain ⟨w2, hrn, hown2, hg2⟩ := run_make_full (P := Try.prog) w.drew w.heap.size 22 5 i0 (.int .u8 0) 1 Try.underlying22 hi hz0 hz1 .i64 .i64 (l.length - 1) (by rw [hz2]; omega) (by unfold maxLen; omega) (Nat.le_refl _)
  have e2 : ((l.length - 1 : Nat) : Int) = (l.length : Int) - 1 := by omega
  rw [e2] at hrn
  rw [Nat.mul_one] at hown2
  have hO2 := own_zeros hown2
  have HB2 : Hid (Below w.heap.size w w2) := (Below.refl w.heap.size w).drew.grown hg2 (Nat.le_refl _) (fun k hk => by cases hk)
  have HO2 : Hid (Own w2 w.heap.size (.slice (some ⟨w.heap.size, 0, none⟩) (l.length - 1) (l.length - 1)) (List.replicate (l.length - 1) 0)) := hO2
  have i1 : ¬ (l.length : Int) < 2 := by omega
  have i2 : ¬ (8193 : Int) < (l.length : Int) := by omega
  clear hown2 hg2 hO2 e2 hi hz0 hz1 hz2
  go_enter Try.func34, Try.ntmps34
  go_wp2_with fail
  refine (HM.out _).mono ?_
  rintro e w' ⟨rfl, hw⟩
  subst w'
  go_wp2_with fail
  refine wp_region_noPanic ?_
  refine wp_region_held_drew (S := (fun w' => Below w.heap.size w w')) (by kernel_rfl) ?_ (fun hHeld => ?_)
  · exact (Below.refl _ _).drew
  refine wpAnyH_take (i := 0) (v := .slice (some ⟨b, off, none⟩) l.length cap) rfl (by kernel_rfl) (by kernel_rfl) (by kernel_rfl) (fun _ _ _ h => h) (Or.inl ⟨by rfl, ?_⟩) (by assumption) ?_
  · (intro w1 hSw; (try dsimp only at hSw); go_simp)
  simp only [List.getElem_toArray, List.getElem_cons_zero, Act.put, List.setIfInBounds_toArray, List.set_cons_zero, List.set_cons_succ]
  refine wpAnyH_take (i := 1) (v := .pointer (some ⟨b, off, none⟩)) rfl (by kernel_rfl) (by kernel_rfl) (by kernel_rfl) (fun _ _ _ h => h) (Or.inl ⟨by rfl, ?_⟩) (by assumption) ?_
  · (intro w1 hSw; (try dsimp only at hSw); go_simp)
  simp only [List.getElem_toArray, List.getElem_cons_succ, List.getElem_cons_zero, Act.put, List.setIfInBounds_toArray, List.set_cons_zero, List.set_cons_succ]
  refine wpAnyH_take (i := 2) (v := .int .u8 (h : Int)) rfl (by kernel_rfl) (by kernel_rfl) (by kernel_rfl) (fun _ _ _ h => h) (Or.inl ⟨by rfl, ?_⟩) (by assumption) ?_
  · (intro w1 hSw; (try dsimp only at hSw); have hcc := (hSw.cell (p := ⟨b, off, none⟩) r5).trans c0; go_simp)
  simp only [List.getElem_toArray, List.getElem_cons_succ, List.getElem_cons_zero, Act.put, List.setIfInBounds_toArray, List.set_cons_zero, List.set_cons_succ]
  refine wpAnyH_take (i := 3) (v := .int .i64 (h : Int)) rfl (by kernel_rfl) (by kernel_rfl) (by kernel_rfl) (fun _ _ _ h => h) (Or.inl ⟨by rfl, ?_⟩) (by assumption) ?_
  · (intro w1 hSw; (try dsimp only at hSw); go_simp; (rw [IntKind.wrap_i64]; omega))
  simp only [List.getElem_toArray, List.getElem_cons_succ, List.getElem_cons_zero, Act.put, List.setIfInBounds_toArray, List.set_cons_zero, List.set_cons_succ]
  refine wpAnyH_take (i := 4) (v := .slice (some ⟨b, off, none⟩) l.length cap) rfl (by kernel_rfl) (by kernel_rfl) (by kernel_rfl) (fun _ _ _ h => h) (Or.inl ⟨by rfl, ?_⟩) (by assumption) ?_
  · (intro w1 hSw; (try dsimp only at hSw); go_simp)
  simp only [List.getElem_toArray, List.getElem_cons_succ, List.getElem_cons_zero, Act.put, List.setIfInBounds_toArray, List.set_cons_zero, List.set_cons_succ]
  refine wpAnyH_take (i := 5) (v := .int .i64 (l.length : Int)) rfl (by kernel_rfl) (by kernel_rfl) (by kernel_rfl) (fun _ _ _ h => h) (Or.inl ⟨by rfl, ?_⟩) (by assumption) ?_
  · (intro w1 hSw; (try dsimp only at hSw); go_simp)
  simp only [List.getElem_toArray, List.getElem_cons_succ, List.getElem_cons_zero, Act.put, List.setIfInBounds_toArray, List.set_cons_zero, List.set_cons_succ]
  refine wpAnyH_take (i := 6) (v := .int .i64 ((l.length : Int) - 1)) rfl (by kernel_rfl) (by kernel_rfl) (by kernel_rfl) (fun _ _ _ h => h) (Or.inl ⟨by rfl, ?_⟩) (by assumption) ?_
  · (intro w1 hSw; (try dsimp only at hSw); go_simp; (rw [IntKind.wrap_i64]; omega))
  simp only [List.getElem_toArray, List.getElem_cons_succ, List.getElem_cons_zero, Act.put, List.setIfInBounds_toArray, List.set_cons_zero, List.set_cons_succ]
  refine wpAnyH_ready (rs := [7]) (by kernel_rfl) (by simp) ?_
  refine AllReadyH.cons (o := _) rfl (fun K hK => ?_) AllReadyH.nil
  go_simp
  refine hK.out _ _ ?_ (fun hHeld => ?_)
  · exact HB2.out
  clear hK K
  refine wpAnyH_take (i := 8) (v := .agg #[.int .i64 (h : Int), .slice (some ⟨w.heap.size, 0, none⟩) (l.length - 1) (l.length - 1)]) rfl (by kernel_rfl) (by kernel_rfl) (by kernel_rfl) (fun _ _ _ h => h) (Or.inl ⟨by rfl, ?_⟩) (by assumption) ?_
  · (intro w1 hSw; (try dsimp only at hSw); go_simp)
  simp only [List.getElem_toArray, List.getElem_cons_succ, List.getElem_cons_zero, Act.put, List.setIfInBounds_toArray, List.set_cons_zero, List.set_cons_succ]
  refine wpAnyH_ready (rs := [9]) (by kernel_rfl) (by simp) ?_
  refine AllReadyH.cons (o := _) rfl (fun K hK => ?_) AllReadyH.nil
  go_simp
  refine hK.out _ _ ?_ (fun hHeld => ?_)
  · exact hHeld.alloc HB2.out.size _
  clear hK K
  refine wpAnyH_take (i := 10) (v := .pointer (some ⟨w2.heap.size, 0, none⟩)) rfl (by kernel_rfl) (by kernel_rfl) (by kernel_rfl) (fun _ _ _ h => h) (Or.inl ⟨by rfl, ?_⟩) (by assumption) ?_
  · (intro w1 hSw; (try dsimp only at hSw); go_simp)
  simp only [List.getElem_toArray, List.getElem_cons_succ, List.getElem_cons_zero, Act.put, List.setIfInBounds_toArray, List.set_cons_zero, List.set_cons_succ]
  refine wpAnyH_done (by kernel_rfl) ?_ _
  refine NoPanic.normal ?_
  obtain ⟨w3, HW3⟩ := hid_ex (w2.alloc (.cells #[.int .i64 (h : Int), .slice (some ⟨w.heap.size, 0, none⟩) (l.length - 1) (l.length - 1)] 86))
  rw [← HW3.out]
  have HB3 : Hid (Below w.heap.size w w3) := by rw [HW3.out]; exact hHeld
  clear hHeld hrn
  go_wp2_with fail
  have hN2 : ¬ cap = 1 := by omega
  have i4 : (1 : Int) ≤ (l.length : Int) := by omega
  have HRD : Hid (∀ w', Below w.heap.size w w' → Reads w' (.slice (some ⟨b, off + 1, none⟩) (l.length - 1) (cap - 1)) (l.drop 1)) := by
    intro w' hb
    have := (HR.out.below hb).drop (c := 1) (by omega) b off rfl
    exact this.1 (by omega)
  have hdl : (l.drop 1).length = l.length - 1 := by simp
  have HDL : Hid ((l.drop 1).length = l.length - 1) := hdl
  clear hdl
  have HOW : Hid (Own w3 w.heap.size (.slice (some ⟨w.heap.size, 0, none⟩) (l.length - 1) (l.length - 1)) (List.replicate (l.length - 1) 0)) := by rw [HW3.out]; exact HO2.out.alloc _
  have HCW : Hid (w3.heap[w2.heap.size]? = some (.cells #[.int .i64 (h : Int), .slice (some ⟨w.heap.size, 0, none⟩) (l.length - 1) (l.length - 1)] 86)) := by rw [HW3.out]; exact World.alloc_heap_new _ _
  have hg2 := (World.ownsRow.lt HO2.out w.heap.size rfl).2
  refine wp_region_noPanic ?_
  refine wp_region_held_drew (S := (fun w' => Below w.heap.size w w' ∧ w'.heap[w2.heap.size]? = some (.cells #[.int .i64 (h : Int), .slice (some ⟨w.heap.size, 0, none⟩) (l.length - 1) (l.length - 1)] 86) ∧ ∃ L, Own w' w.heap.size (.slice (some ⟨w.heap.size, 0, none⟩) (l.length - 1) (l.length - 1)) L)) (by kernel_rfl) ?_ (fun hHeld => ?_)
  · exact ⟨HB3.out.drew, HCW.out, _, HOW.out⟩
  refine wpAnyH_take (i := 0) (v := .pointer (some ⟨w2.heap.size, 0, none⟩)) rfl (by kernel_rfl) (by kernel_rfl) (by kernel_rfl) (fun _ _ _ h => h) (Or.inl ⟨by rfl, ?_⟩) (by assumption) ?_
  · (intro w1 hSw; (try dsimp only at hSw); go_simp)
  simp only [List.getElem_toArray, List.getElem_cons_zero, Act.put, List.setIfInBounds_toArray, List.set_cons_zero, List.set_cons_succ]
  refine wpAnyH_take (i := 1) (v := .pointer (some ⟨w2.heap.size, 0, none⟩)) rfl (by kernel_rfl) (by kernel_rfl) (by kernel_rfl) (fun _ _ _ h => h) (Or.inl ⟨by rfl, ?_⟩) (by assumption) ?_
  · (intro w1 hSw; (try dsimp only at hSw); go_simp)
  simp only [List.getElem_toArray, List.getElem_cons_succ, List.getElem_cons_zero, Act.put, List.setIfInBounds_toArray, List.set_cons_zero, List.set_cons_succ]
  refine wpAnyH_take (i := 2) (v := .pointer (some ⟨w2.heap.size, 1, none⟩)) rfl (by kernel_rfl) (by kernel_rfl) (by kernel_rfl) (fun _ _ _ h => h) (Or.inl ⟨by rfl, ?_⟩) (by assumption) ?_
  · (intro w1 hSw; (try dsimp only at hSw); go_simp)
  simp only [List.getElem_toArray, List.getElem_cons_succ, List.getElem_cons_zero, Act.put, List.setIfInBounds_toArray, List.set_cons_zero, List.set_cons_succ]
  refine wpAnyH_take (i := 3) (v := .slice (some ⟨w.heap.size, 0, none⟩) (l.length - 1) (l.length - 1)) rfl (by kernel_rfl) (by kernel_rfl) (by kernel_rfl) (fun _ _ _ h => h) (Or.inl ⟨by rfl, ?_⟩) (by assumption) ?_
  · (intro w1 hSw; (try dsimp only at hSw); (have hcc := cell_of hSw.2.1 1 (by simp); simp at hcc); go_simp)
  simp only [List.getElem_toArray, List.getElem_cons_succ, List.getElem_cons_zero, Act.put, List.setIfInBounds_toArray, List.set_cons_zero, List.set_cons_succ]
  refine wpAnyH_take (i := 4) (v := .slice (some ⟨b, off, none⟩) l.length cap) rfl (by kernel_rfl) (by kernel_rfl) (by kernel_rfl) (fun _ _ _ h => h) (Or.inl ⟨by rfl, ?_⟩) (by assumption) ?_
  · (intro w1 hSw; (try dsimp only at hSw); go_simp)
  simp only [List.getElem_toArray, List.getElem_cons_succ, List.getElem_cons_zero, Act.put, List.setIfInBounds_toArray, List.set_cons_zero, List.set_cons_succ]
  refine wpAnyH_take (i := 5) (v := .slice (some ⟨b, off + 1, none⟩) (l.length - 1) (cap - 1)) rfl (by kernel_rfl) (by kernel_rfl) (by kernel_rfl) (fun _ _ _ h => h) (Or.inl ⟨by rfl, ?_⟩) (by assumption) ?_
  · (intro w1 hSw; (try dsimp only at hSw); go_simp)
  simp only [List.getElem_toArray, List.getElem_cons_succ, List.getElem_cons_zero, Act.put, List.setIfInBounds_toArray, List.set_cons_zero, List.set_cons_succ]
  refine wpAnyH_ready (rs := [6]) (by kernel_rfl) (by simp) ?_
  refine AllReadyH.cons (o := _) rfl (fun K hK => ?_) AllReadyH.nil
  obtain ⟨hbh, hch, L1, hOL⟩ := id hHeld
  refine wp_copy _ _ (by rfl) w.heap.size w.heap.size (l.length - 1) 0 (l.length - 1) L1 (l.drop 1) _ (by omega) (by rfl) (by rfl) hOL (HRD.out _ hbh) (by rw [HDL.out]; omega) (by rw [HDL.out]; omega) ?_
  intro w4 HO4 HB4 HG4
  rw [List.take_zero, List.nil_append] at HO4
  have HC4 : Hid (w4.heap[w2.heap.size]? = some (.cells #[.int .i64 (h : Int), .slice (some ⟨w.heap.size, 0, none⟩) (l.length - 1) (l.length - 1)] 86)) := (HG4.out.block _ (Array.getElem?_eq_some_iff.1 hch).1 (by simp; omega)).trans hch
  have HB5 : Hid (Below w.heap.size w w4) := hbh.trans HB4.out
  simp only [List.getElem_toArray, List.getElem_cons_succ, List.getElem_cons_zero, Act.put, List.setIfInBounds_toArray, List.set_cons_zero, List.set_cons_succ]
  refine hK.out _ _ ?_ (fun hHeld => ?_)
  · exact ⟨HB5.out, HC4.out, _, HO4⟩
  clear hK K
  clear hHeld
  refine wpAnyH_done (by kernel_rfl) ?_ _
  refine NoPanic.normal ?_
  go_wp2_with fail
  go_ret2
  have hB2s := HB2.out.size
  refine ⟨_, rfl, ⟨w2.heap.size, w.heap.size, l.length - 1, rfl, hB2s, ?_, ?_, by omega, h3, h4, by rw [HDL.out]; omega, by rw [HDL.out]; omega⟩, HB5.out⟩
  · rw [HDL.out]; exact HC4.out
  · rw [HDL.out]; exact HO4
theorem read_no (v : Value) (l : List UInt8) (w : World) (hR : Reads w v l) (hno : ¬ rdOk l) :
    Calls Try.prog 34 #[v] w fun e w' => e = .returned (.tuple #[.pointer none, .int .i64 3]) ∧ w' = w := by
  by_cases h1 : l.length < 2
  · obtain ⟨a, cap, rfl, _⟩ := hR.form
    have i1 : (l.length : Int) < 2 := by omega
    clear hR
    go_enter Try.func34, Try.ntmps34
    go_wp2_with fail
    go_ret2
    exact ⟨rfl, rfl⟩
  · have i1 : ¬ (l.length : Int) < 2 := by omega
    by_cases h2 : 8193 < l.length
    · obtain ⟨a, cap, rfl, _⟩ := hR.form
      have i2 : (8193 : Int) < (l.length : Int) := by omega
      clear hR
      go_enter Try.func34, Try.ntmps34
      go_wp2_with fail
      go_ret2
      exact ⟨rfl, rfl⟩
    · have i2 : ¬ (8193 : Int) < (l.length : Int) := by omega
      obtain ⟨h, Hh⟩ := hid_ex (l.getD 0 0).toNat
      rcases hR with ⟨rfl, _⟩ | ⟨b, off, cap, rfl, r2, r3, r4, r5, r6⟩
      · simp at h1
      have c0 := r6 0 (by omega)
      have e0 : bc l[0] = .int .u8 (h : Int) := by
        rw [Hh.out]; simp [bc, List.getD, List.getElem?_eq_getElem (show 0 < l.length by omega)]
      rw [e0, Nat.add_zero] at c0
      unfold maxLen at r4
      have hlt : h < 256 := by rw [Hh.out]; exact UInt8.toNat_lt _
      have HM : Hid _ := mayHash_any (h : Int)
      have em : decide (1 ≤ (h : Int) ∧ (h : Int) ≤ 8) = false := by
        simp only [decide_eq_false_iff_not]
        intro hx
        exact hno ⟨by omega, by omega, by rw [← Hh.out]; omega, by rw [← Hh.out]; omega⟩
      rw [em] at HM
      clear em r6 e0 hno
      go_enter Try.func34, Try.ntmps34
      go_wp2_with fail
      refine (HM.out _).mono ?_
      rintro e w' ⟨rfl, hw⟩
      subst w'
      go_wp2_with fail
      go_ret2
      exact ⟨rfl, rfl⟩
theorem read_any_B (v : Value) (l : List UInt8) (w : World) (hR : Reads w v l) : Calls Try.prog 34 #[v] w fun e w' =>
    (∃ v', e = .returned (.tuple #[v', .int .i64 0]) ∧ rdOk l ∧ Fil w' w.heap.size v' (l.getD 0 0).toNat (l.drop 1) ∧ Below w.heap.size w w') ∨ (e = .returned (.tuple #[.pointer none, .int .i64 3]) ∧ ¬ rdOk l ∧ w' = w) := by
  by_cases hok : rdOk l
  · refine (read_ok v l w hR hok).mono ?_
    rintro e w' ⟨v', rfl, hf, hb⟩
    exact .inl ⟨v', rfl, hok, hf, hb⟩
  · refine (read_no v l w hR hok).mono ?_
    rintro e w' ⟨rfl, rfl⟩
    exact .inr ⟨rfl, hok, rfl⟩
end Go.Proofs.Ytgjbnampjgpmfaa

/- table: Open of an empty table; alive. -/
namespace Go.Proofs.Ytgjbnampjgpmfaa
open Go.RowKit

theorem row_formS {w : World} {base n size : Nat} {e : TypeId} {v : Value} {xs : List Value} (h : w.ownsRow base e size v n xs) : ∃ a c, v = .slice a n c := by
  rcases h.2 with ⟨h1, h2⟩ | ⟨g, cap, cur, h1, _⟩
  · exact ⟨none, 0, by rw [h1, h2]⟩
  · exact ⟨_, cap, h1⟩
/-- A slice of slices of bytes. -/
def DsR (w : World) (v : Value) (ds : List (List UInt8)) : Prop :=
  ∃ a cap, v = .slice a ds.length cap ∧ ds.length ≤ maxLen ∧ ∀ j (hj : j < ds.length), ∃ g u, a = some ⟨g, 0, none⟩ ∧ g < w.heap.size ∧ w.cell? ⟨g, j, none⟩ = some u ∧ Reads w u ds[j]
theorem DsR.form {w : World} {v : Value} {ds : List (List UInt8)} (h : DsR w v ds) : ∃ a cap, v = .slice a ds.length cap ∧ ds.length ≤ maxLen := by
  obtain ⟨a, cap, h1, h2, _⟩ := h
  exact ⟨a, cap, h1, h2⟩
theorem DsR.at {w : World} {a : Option Addr} {n cap : Nat} {ds : List (List UInt8)} (h : DsR w (.slice a n cap) ds) {j : Nat} (hj : j < ds.length) {d : List UInt8} (hd : d = ds[j]) : ∃ g u, a = some ⟨g, 0, none⟩ ∧ g < w.heap.size ∧ w.cell? ⟨g, j, none⟩ = some u ∧ Reads w u d := by
  subst hd
  obtain ⟨a', cap', e, _, h3⟩ := h
  cases e
  exact h3 j hj
theorem dsr_of {w : World} {base : Nat} {vl : Value} {xs : List Fr} (h : w.ownsRow base 22 1 vl xs.length (xs.map Fr.v)) (hx : ∀ x ∈ xs, Own w base x.v x.D) : DsR w vl (xs.map Fr.D) := by
  have h' : w.ownsRow base 22 1 vl (xs.map Fr.v).length (xs.map Fr.v) := by rw [List.length_map]; exact h
  rcases Nat.eq_zero_or_pos xs.length with h0 | h0
  · obtain ⟨a, c, hv⟩ := row_formS h
    have : xs = [] := List.length_eq_zero_iff.1 h0
    subst this
    exact ⟨a, c, hv, Nat.zero_le _, fun j hj => by simp at hj⟩
  · obtain ⟨g, cap, hv, _, hg, hc⟩ := row_at h' (by simpa using h0)
    have hm : xs.length ≤ maxLen := by
      rcases h.2 with ⟨_, q⟩ | ⟨g', cap', cur, _, _, _, q1, q2, _⟩
      · rw [q]; exact Nat.zero_le _
      · exact Nat.le_trans q1 q2
    refine ⟨_, cap, by simpa using hv, by simpa using hm, fun j hj => ?_⟩
    simp only [List.length_map] at hj
    refine ⟨g, xs[j].v, rfl, hg, by have := hc j (by simpa using hj); simpa using this, ?_⟩
    have := (hx xs[j] (List.getElem_mem hj)).reads
    simpa using this
theorem l3 {α : Type} : ∀ {l : List α}, l.length = 3 → ∃ a b c, l = [a, b, c]
  | [a, b, c], _ => ⟨a, b, c, rfl⟩
/-- An empty table's bytes. -/
def e42 : List UInt8 := frm [] ++ frm [6, 0] ++ frm [0, 0, 0, 0, 0, 0, 0, 0, 0, 0, 0, 0, 0, 0, 0, 0]
theorem e42_len : e42.length = 42 := by unfold e42; rw [List.length_append, List.length_append, frm_len, frm_len, frm_len]; rfl
theorem e42_all : alF (e42.length + 1) e42 = [([], 8), ([6, 0], 10), ([0, 0, 0, 0, 0, 0, 0, 0, 0, 0, 0, 0, 0, 0, 0, 0], 24)] := by
  rw [e42_len]
  unfold e42
  rw [List.append_assoc, alF_frm _ _ _ (by simp), alF_frm _ _ _ (by simp)]
  have := alF_frm 40 [0, 0, 0, 0, 0, 0, 0, 0, 0, 0, 0, 0, 0, 0, 0, 0] [] (by simp)
  rw [List.append_nil] at this
  rw [this]
  have e3 : alF 40 [] = [] := by rw [alF, if_neg (by simp [nxF])]
  rw [e3]
  rfl
theorem first_zero (a0 a : Option Addr) (c0 n c : Nat) (m : Int) (w : World) : Calls Try.prog 23 #[.slice a0 0 c0, .slice a n c, .int .i64 m] w fun e w' => e = .returned (.slice none 0 0) ∧ Below w.heap.size w w' := by
  go_enter Try.func23, Try.ntmps23
  go_wp2_with fail
  go_loopw [7, 18] (fun o i wr => wr = w ∧ o = .slice none 0 0 ∧ i = .int .i64 0) (fun _ _ _ => 0)
  case atStart => exact ⟨rfl, rfl, rfl⟩
  case round =>
    obtain ⟨rfl, rfl, rfl⟩ := hrel
    go_wp2_with fail
    go_ret
    exact ⟨rfl, Below.refl _ _⟩
theorem mkP : ∀ w, (Instr.makeSlice 25 (.int .i64 0) (.int .i64 0)).run Try.prog w = .ok (.slice (some ⟨w.heap.size, 0, none⟩) 0 0) (w.alloc (.cells #[] 58)) := fun _ => by kernel_rfl
/-- An open table that has nothing. -/
def TE (w : World) (B : Nat) (fv : Value) : Prop := (∃ a c, w.heap[B]? = some (.cells #[.slice a 0 c, fv, .int .i64 0] 30)) ∧ ∃ base, Fil w base fv 6 [0]
theorem TE.below {w w' : World} {B : Nat} {fv : Value} (h : TE w B fv) (hb : Below w.heap.size w w') : TE w' B fv := by
  obtain ⟨⟨a, c, h1⟩, base, h2⟩ := h
  exact ⟨⟨a, c, (hb.block _ (Array.getElem?_eq_some_iff.1 h1).1).trans h1⟩, base, h2.below hb⟩
set_option maxRecDepth 100000 in
set_option maxHeartbeats 2000000 in
theorem topen_nil (w : World) : Calls Try.prog 15 #[.slice none 0 0] w fun e w' => e = .returned (.tuple #[.pointer none, .int .i64 70]) ∧ Below w.heap.size w w' := by
  have hA := all_any (.slice none 0 0) [] (by simp) w (.inl ⟨rfl, none, 0, rfl, fun _ => rfl⟩)
  rw [show alF (([] : List UInt8).length + 1) [] = [] from by rw [alF, if_neg (by simp [nxF])]] at hA
  have HA : Hid (Calls Try.prog 32 #[.slice none 0 0] w _) := hA
  clear hA
  go_enter Try.func15, Try.ntmps15
  go_wp2_with fail
  refine HA.out.mono ?_
  rintro e w1 ⟨vl, xs, rfl, hxs, hrow, hown, hb1⟩
  obtain rfl : xs = [] := by cases xs with
    | nil => rfl
    | cons x xs => simp at hxs
  obtain ⟨a, c, hv⟩ := row_formS hrow
  subst hv
  have HB1 : Hid (Below w.heap.size w w1) := hb1
  clear hrow hown hxs hb1 HA
  simp only [List.length_nil, ksum, List.map_nil, List.sum_nil]
  go_wp2_with fail
  go_ret2
  exact ⟨rfl, HB1.out⟩
set_option maxRecDepth 100000 in
set_option maxHeartbeats 4000000 in
theorem topen_e42 (v : Value) (w : World) (hR : Reads w v e42) : Calls Try.prog 15 #[v] w fun e w' => ∃ B fv, e = .returned (.tuple #[.pointer (some ⟨B, 0, none⟩), .int .i64 0]) ∧ TE w' B fv ∧ Below w.heap.size w w' := by
  obtain ⟨ba, bc9, rfl, _⟩ := hR.form
  have hA := all_any _ e42 (by rw [e42_len]; decide) w hR
  rw [e42_all, e42_len] at hA
  have HR : Hid (Reads w (.slice ba 42 bc9) e42) := by have := hR; rw [e42_len] at this; exact this
  have HA : Hid (Calls Try.prog 32 #[.slice ba 42 bc9] w _) := hA
  rw [e42_len]
  clear hA hR
  go_enter Try.func15, Try.ntmps15
  go_wp2_with fail
  refine HA.out.mono ?_
  rintro e w1 ⟨vl, xs, rfl, hxs, hrow, hown, hb1⟩
  have hD := dsr_of hrow hown
  have hl3 : xs.length = 3 := by have := congrArg List.length hxs; simpa using this
  obtain ⟨x0, x1, x2, rfl⟩ := l3 hl3
  simp only [List.map_cons, List.map_nil, List.cons.injEq, and_true, Fr.p, Prod.mk.injEq] at hxs
  obtain ⟨⟨d0, _⟩, ⟨d1, _⟩, _⟩ := hxs
  simp only [List.map_cons, List.map_nil] at hD
  rw [d0, d1] at hD
  obtain ⟨fa, fc, hv, _⟩ := hD.form
  subst hv
  obtain ⟨g, u0, hfa, hg, hc0, hr0⟩ := hD.at (j := 0) (by simp) rfl
  obtain ⟨g', u1, hfa', _, hc1, hr1⟩ := hD.at (j := 1) (by simp) rfl
  subst hfa
  simp only [Option.some.injEq, Addr.mk.injEq, and_true] at hfa'
  subst hfa'
  have HB1 : Hid (Below w.heap.size w w1) := hb1
  have HC : Hid (g < w1.heap.size ∧ w1.cell? ⟨g, 0, none⟩ = some u0 ∧ w1.cell? ⟨g, 1, none⟩ = some u1) := ⟨hg, hc0, hc1⟩
  have HR0 : Hid (Reads w1 u0 []) := hr0
  have HR1 : Hid (Reads w1 u1 [6, 0]) := hr1
  obtain ⟨ua, uc, hu0, _⟩ := hr0.form
  obtain ⟨va, vc, hu1, _⟩ := hr1.form
  subst hu0
  subst hu1
  obtain ⟨KS, HKS⟩ := hid_ex (ksum [(([] : List UInt8), 8), ([6, 0], 10), ([0, 0, 0, 0, 0, 0, 0, 0, 0, 0, 0, 0, 0, 0, 0, 0], 24)])
  rw [← HKS.out]
  simp only [List.length_cons, List.length_nil, Nat.reduceAdd]
  clear hrow hown hb1 hD hg hc0 hc1 hr0 hr1 d0 d1 HA
  have hmk := mkP
  go_wp2_with fail
  obtain ⟨w2, HW2⟩ := hid_ex (w1.alloc (.cells #[] 58))
  have hb2 : Below w1.heap.size w1 w2 := by rw [HW2.out]; exact (Below.refl _ _).alloc (Nat.le_refl _) _
  have HB2 : Hid (Below w1.heap.size w1 w2) := hb2
  rw [← HW2.out]
  clear HW2 hb2
  go_loopw [32] (fun i wr => wr = w2 ∧ i = .int .i64 0) (fun _ _ => 0)
  case atStart => exact ⟨rfl, rfl⟩
  case round =>
    obtain ⟨rfl, rfl⟩ := hrel
    go_wp2_with fail
    refine (first_zero _ _ _ _ _ _ _).mono ?_
    rintro e w3 ⟨rfl, hb3⟩
    have HB3 : Hid (Below w1.heap.size w1 w3) := HB2.out.trans (hb3.mono HB2.out.size)
    clear hb3
    go_wp2_with fail
    refine (twrite_nil _).mono ?_
    rintro e w4 ⟨v4, rfl, ho4, hb4⟩
    have HB4 : Hid (Below w1.heap.size w1 w4) := HB3.out.trans (hb4.mono HB3.out.size)
    have hEq := equal_any v4 (.slice ba 42 bc9) e42 e42 w4 ho4.reads (HR.out.below (HB1.out.trans (HB4.out.mono HB1.out.size)))
    obtain ⟨a4, c4, hv4, _⟩ := ho4.form
    subst hv4
    have e4 : (frm [] ++ frm [6, 0] ++ frm [0, 0, 0, 0, 0, 0, 0, 0, 0, 0, 0, 0, 0, 0, 0, 0]).length = 42 := e42_len
    rw [e4] at hEq ⊢
    rw [show decide (e42 = e42) = true from decide_eq_true rfl] at hEq
    have HEq : Hid (Calls Try.prog 17 #[.slice a4 42 c4, .slice ba 42 bc9] w4 _) := hEq
    clear ho4 hb4 hEq e4
    go_wp2_with fail
    refine HEq.out.mono ?_
    clear HEq
    rintro e w5 ⟨rfl, rfl⟩
    have hq0 : w5.cell? ⟨g, 0, none⟩ = some (.slice ua ([] : List UInt8).length uc) := (HB4.out.cell HC.out.1).trans HC.out.2.1
    have hq1 : w5.cell? ⟨g, 1, none⟩ = some (.slice va [6, (0 : UInt8)].length vc) := (HB4.out.cell HC.out.1).trans HC.out.2.2
    simp only [List.length_cons, List.length_nil, Nat.reduceAdd] at hq0 hq1
    have hRd := read_any (.slice ua 0 uc) [] (by simp) w5 (HR0.out.below HB4.out)
    have HRd : Hid (Calls Try.prog 33 #[.slice ua 0 uc] w5 _) := hRd
    clear hRd
    go_wp2_with fail
    refine HRd.out.mono ?_
    clear HRd
    rintro e w6 ⟨hb6, hrd⟩
    rw [show rdB [] = some [] from by decide] at hrd
    obtain ⟨u6, xs6, rfl, hx6, ho6⟩ := hrd
    obtain rfl : xs6 = [] := by cases xs6 with
      | nil => rfl
      | cons x xs => simp at hx6
    obtain ⟨a6, c6, hu6⟩ := row_formS ho6.1
    subst hu6
    have HB6 : Hid (Below w1.heap.size w1 w6) := HB4.out.trans (hb6.mono HB4.out.size)
    have hq6 : w6.cell? ⟨g, 1, none⟩ = some (.slice va 2 vc) := by
      have := (HB6.out.cell HC.out.1).trans HC.out.2.2
      simpa using this
    clear ho6 hx6 hb6 hq0 hq1
    simp only [List.length_nil]
    go_wp2_with fail
    go_loopw [69] (fun i wr => wr = w6 ∧ i = .int .i64 0) (fun _ _ => 0)
    case atStart => exact ⟨rfl, rfl⟩
    case round =>
      obtain ⟨rfl, rfl⟩ := hrel
      have hFr := read_ok (.slice va 2 vc) [6, 0] wr (HR1.out.below HB6.out) (by unfold rdOk; decide)
      have HFr : Hid (Calls Try.prog 34 #[.slice va 2 vc] wr _) := hFr
      clear hFr
      go_wp2_with fail
      refine HFr.out.mono ?_
      clear HFr
      rintro e w7 ⟨v7, rfl, hfil, hb7⟩
      have HB7 : Hid (Below w.heap.size w w7) := HB1.out.trans ((HB6.out.trans (hb7.mono HB6.out.size)).mono HB1.out.size)
      obtain ⟨B7, hv7⟩ := hfil.ptr
      subst hv7
      have HFil : Hid (Fil w7 wr.heap.size (.pointer (some ⟨B7, 0, none⟩)) 6 [0]) := hfil
      clear hfil hb7 hq6
      go_wp2_with fail
      go_ret2
      exact ⟨w7.heap.size, _, rfl, ⟨⟨_, _, heap_alloc_new _ _⟩, _, HFil.out.below ((Below.refl _ _).alloc (Nat.le_refl _) _)⟩, HB7.out.alloc HB7.out.size _⟩
/-- alive. -/
theorem tlen_te {w : World} {B : Nat} {fv : Value} (h : TE w B fv) : Calls Try.prog 10 #[.pointer (some ⟨B, 0, none⟩)] w fun e w' => e = .returned (.int .i64 0) ∧ w' = w := by
  obtain ⟨⟨a, c, hB⟩, _⟩ := h
  have z2 : w.cell? ⟨B, 2, none⟩ = some (.int .i64 0) := by simp [World.cell?, hB]
  go_enter Try.func10, Try.ntmps10
  go_wp2_with fail
  go_ret
  exact ⟨rfl, rfl⟩
theorem tmay_te {w : World} {B : Nat} {fv : Value} (h : TE w B fv) (kv : Value) (key : List UInt8) (hR : Reads w kv key) (hk : myF [0] (plc key 8 6) = false) : Calls Try.prog 9 #[.pointer (some ⟨B, 0, none⟩), kv] w fun e w' => e = .returned (.bool false) ∧ Below w.heap.size w w' := by
  obtain ⟨⟨a, c, hB⟩, base, hF⟩ := h
  have hM := may_any fv kv 6 [0] key w base hF hR
  rw [show 8 * ([0] : List UInt8).length = 8 from rfl, hk] at hM
  obtain ⟨B2, hv⟩ := hF.ptr
  subst hv
  have z1 : w.cell? ⟨B, 1, none⟩ = some (.pointer (some ⟨B2, 0, none⟩)) := by simp [World.cell?, hB]
  obtain ⟨ka, kc, rfl, _⟩ := hR.form
  have HM : Hid (Calls Try.prog 19 #[.pointer (some ⟨B2, 0, none⟩), .slice ka key.length kc] w _) := hM
  clear hM hF hR hB
  go_enter Try.func9, Try.ntmps9
  go_wp2_with fail
  refine HM.out.mono ?_
  rintro e w1 ⟨rfl, hb⟩
  go_wp2_with fail
  go_ret
  exact ⟨rfl, hb⟩
theorem my_a : myF [0] (plc [97] 8 6) = false := by decide
end Go.Proofs.Ytgjbnampjgpmfaa
