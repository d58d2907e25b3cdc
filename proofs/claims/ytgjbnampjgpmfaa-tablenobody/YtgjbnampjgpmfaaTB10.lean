/- B5 B6 LR B7, joined. -/
import Derived.Test.YtgjbnampjgpmfaaTB4
import Derived.Test.YtgjbnampjgpmfaaTB9
import Derived.Laws.OwnMore
import Derived.Lib.SmallJoins
import Derived.Deep.Slices
/- The contracts of bloom's New and Fit, and of a filter that no call made. -/
namespace Go.Proofs.Ytgjbnampjgpmfaa
open Go.RowKit

theorem add_any_B (v kv : Value) (h : Nat) (D key : List UInt8) (w : World) (base : Nat) (hbase : base ≤ w.heap.size) (hF : Fil w base v h D) (hR : Reads w kv key) :
    Calls Try.prog 49 #[v, kv] w fun e W' => e = .returned (.int .i64 0) ∧ Fil W' base v h (adF D (plc key (8 * D.length) h)) ∧ Below base w W' ∧ Kf v w W' := callsIn_wide.1 (add_in 5 (by decide) v kv h D key w base hbase hF hR)
theorem may_any (v kv : Value) (h : Nat) (D key : List UInt8) (w : World) (base : Nat) (hF : Fil w base v h D) (hR : Reads w kv key) :
    Calls Try.prog 19 #[v, kv] w fun e W' => e = .returned (.bool (myF D (plc key (8 * D.length) h))) ∧ Below w.heap.size w W' := callsIn_wide.1 (may_in 5 (by decide) v kv h D key w base hF hR)
theorem Fil.ptr {w : World} {base : Nat} {v : Value} {h : Nat} {D : List UInt8} (hf : Fil w base v h D) : ∃ B, v = .pointer (some ⟨B, 0, none⟩) := by obtain ⟨B, _, _, rfl, _⟩ := hf; exact ⟨B, rfl⟩
theorem Fil.facts {w : World} {base : Nat} {v : Value} {h : Nat} {D : List UInt8} (hf : Fil w base v h D) : 1 ≤ h ∧ h ≤ 8 ∧ 0 < D.length ∧ D.length ≤ 8192 := by obtain ⟨B, _, _, _, _, _, _, _, h1, h2, h3, h4⟩ := hf; exact ⟨h1, h2, h3, h4⟩
theorem mayHash_any (h : Int) (w : World) : Calls Try.prog 53 #[.int .i64 h] w fun e w' => e = .returned (.bool (decide (1 ≤ h ∧ h ≤ 8))) ∧ w' = w := by
  by_cases h1 : 1 ≤ h
  · by_cases h2 : h ≤ 8
    · have e : decide (1 ≤ h ∧ h ≤ 8) = true := by simp [h1, h2]
      rw [e]
      go_enter Try.func53, Try.ntmps53
      go_wp2_with fail
      go_ret
      exact ⟨rfl, rfl⟩
    · have e : decide (1 ≤ h ∧ h ≤ 8) = false := by simp [h2]
      rw [e]
      go_enter Try.func53, Try.ntmps53
      go_wp2_with fail
      go_ret
      exact ⟨rfl, rfl⟩
  · have e : decide (1 ≤ h ∧ h ≤ 8) = false := by simp [h1]
    rw [e]
    go_enter Try.func53, Try.ntmps53
    go_wp2_with fail
    go_ret
    exact ⟨rfl, rfl⟩
/-- What New and Read make: nothing, or a filter. -/
def newOk (d h : Int) : Prop := 8 ≤ d ∧ d ≤ 65536 ∧ d % 8 = 0 ∧ 1 ≤ h ∧ h ≤ 8
theorem fil_new {w : World} {base g cap : Nat} {D : List UInt8} (h : Nat) (ho : Own w base (.slice (some ⟨g, 0, none⟩) D.length cap) D) (h1 : 1 ≤ h) (h8 : h ≤ 8) (hd : 0 < D.length) (hd8 : D.length ≤ 8192) :
    Fil (w.alloc (.cells #[.int .i64 (h : Int), .slice (some ⟨g, 0, none⟩) D.length cap] 86)) base (.pointer (some ⟨w.heap.size, 0, none⟩)) h D := by
  have hlt := World.ownsRow.lt ho g rfl
  exact ⟨w.heap.size, g, cap, rfl, by omega, World.alloc_heap_new _ _, ho.alloc _, by omega, h1, h8, hd, hd8⟩
theorem fil_new' {w : World} {base g n cap : Nat} {D : List UInt8} (h : Nat) (ho : Own w base (.slice (some ⟨g, 0, none⟩) n cap) D) (hn : n = D.length) (h1 : 1 ≤ h) (h8 : h ≤ 8) (hd : 0 < n) (hd8 : n ≤ 8192) :
    Fil (w.alloc (.cells #[.int .i64 (h : Int), .slice (some ⟨g, 0, none⟩) n cap] 86)) base (.pointer (some ⟨w.heap.size, 0, none⟩)) h D := by
  subst hn; exact fil_new h ho h1 h8 hd hd8
theorem tupA {x y z u : Int} (h : x = y) : Ending.returned (.tuple #[.int .i64 x, .int .i64 z, .int .i64 u]) = .returned (.tuple #[.int .i64 y, .int .i64 z, .int .i64 u]) := by rw [h]
theorem new_ok (d h : Nat) (hok : newOk (8 * d) h) (w : World) : Calls Try.prog 48 #[.int .i64 (8 * (d : Int)), .int .i64 (h : Int)] w fun e w' => ∃ v, e = .returned (.tuple #[v, .int .i64 0]) ∧ Fil w' w.heap.size v h (List.replicate d 0) ∧ Below w.heap.size w w' := by
  obtain ⟨h1, h2, h3, h4, h5⟩ := hok
  have hh := mayHash_any h
  have e : decide (1 ≤ (h : Int) ∧ (h : Int) ≤ 8) = true := by simp; omega
  rw [e] at hh
  have HH : Hid _ := hh
  clear hh e
  have i1 : ¬ 8 * (d : Int) < 8 := by omega
  have i2 : ¬ (65536 : Int) < 8 * (d : Int) := by omega
  have hq : (8 * (d : Int)).tdiv 8 = (d : Int) := by rw [Int.mul_tdiv_cancel_left _ (by decide)]
  have hr : (8 * (d : Int)).tmod 8 = 0 := by rw [Int.mul_tmod_right]
  obtain ⟨i0, hi, hz0, hz1, hz2⟩ := info_parts info5
  obtain ⟨w2, hrn, hown2, hg2⟩ := run_make_full (P := Try.prog) w w.heap.size 22 5 i0 (.int .u8 0) 1 Try.underlying22 hi hz0 hz1 .i64 .i64 d (by rw [hz2]; omega) (by unfold maxLen; omega) (Nat.le_refl _)
  have HB2 : Hid (Below w.heap.size w w2) := (Below.refl _ _).grown hg2 (Nat.le_refl _) (fun k hk => by cases hk)
  have HO2 : Hid (Own w2 w.heap.size (.slice (some ⟨w.heap.size, 0, none⟩) d d) (List.replicate d 0)) := by
    have e0 : (Value.int .u8 0).cells = #[.int .u8 0] := rfl
    rw [e0, toList_madeCells_one] at hown2
    unfold Hid Own; simpa [bc] using hown2
  clear hown2 hg2
  go_enter Try.func48, Try.ntmps48
  go_wp2_with fail
  refine (HH.out _).mono ?_
  rintro e w' ⟨rfl, hw⟩
  subst w'
  go_wp2_with fail
  go_ret2
  have hs2 := HB2.out.size
  exact ⟨_, rfl, fil_new' h HO2.out (by simp) (by omega) (by omega) (by omega) (by omega), HB2.out.alloc hs2 _⟩
theorem new_no (d h : Int) (hno : ¬ newOk d h) (w : World) : Calls Try.prog 48 #[.int .i64 d, .int .i64 h] w fun e w' => e = .returned (.tuple #[.pointer none, .int .i64 1]) ∧ w' = w := by
  have hh := mayHash_any h
  by_cases h1 : d < 8
  · go_enter Try.func48, Try.ntmps48
    go_wp2_with fail
    go_ret2
    exact ⟨rfl, rfl⟩
  · by_cases h2 : 65536 < d
    · go_enter Try.func48, Try.ntmps48
      go_wp2_with fail
      go_ret2
      exact ⟨rfl, rfl⟩
    · have et : d.tmod 8 = d % 8 := Int.tmod_eq_emod_of_nonneg (by omega)
      by_cases h3 : d % 8 = 0
      · have e : decide (1 ≤ h ∧ h ≤ 8) = false := by
          simp only [decide_eq_false_iff_not]
          intro hx
          exact hno ⟨by omega, by omega, h3, hx.1, hx.2⟩
        rw [e] at hh
        have HH : Hid _ := hh
        clear hh e hno
        have h4 : d.tmod 8 = 0 := by omega
        go_enter Try.func48, Try.ntmps48
        go_wp2_with fail
        refine (HH.out _).mono ?_
        rintro e w' ⟨rfl, hw⟩
        subst w'
        go_wp2_with fail
        go_ret2
        exact ⟨rfl, rfl⟩
      · have h4 : ¬ d.tmod 8 = 0 := by omega
        clear hno hh et
        go_enter Try.func48, Try.ntmps48
        go_wp2_with fail
        go_ret2
        exact ⟨rfl, rfl⟩
theorem new_any (d h : Int) (w : World) : Calls Try.prog 48 #[.int .i64 d, .int .i64 h] w fun e w' =>
    (∃ v, e = .returned (.tuple #[v, .int .i64 0]) ∧ newOk d h ∧ Fil w' w.heap.size v h.toNat (List.replicate (d / 8).toNat 0) ∧ Below w.heap.size w w') ∨ (e = .returned (.tuple #[.pointer none, .int .i64 1]) ∧ ¬ newOk d h ∧ w' = w) := by
  by_cases hok : newOk d h
  · obtain ⟨h1, h2, h3, h4, h5⟩ := id hok
    have hd : d = 8 * ((d / 8).toNat : Int) := by omega
    have hhn : h = (h.toNat : Int) := by omega
    have := new_ok (d / 8).toNat h.toNat (by rw [← hd, ← hhn]; exact hok) w
    rw [← hd, ← hhn] at this
    refine this.mono ?_
    rintro e w' ⟨v, rfl, hf, hb⟩
    exact .inl ⟨v, rfl, hok, hf, hb⟩
  · refine (new_no d h hok w).mono ?_
    rintro e w' ⟨rfl, rfl⟩
    exact .inr ⟨rfl, hok, rfl⟩
/-- How many digits are good. -/
def fitF (k : Int) : Int × Int × Int := if k < 0 then (0, 0, 1) else if 6553 < k then (65536, 6, 0) else (8 * max ((10 * k + 7) / 8) 1, 6, 0)
theorem fit_any (k : Int) (w : World) : Calls Try.prog 47 #[.int .i64 k] w fun e w' => e = .returned (.tuple #[.int .i64 (fitF k).1, .int .i64 (fitF k).2.1, .int .i64 (fitF k).2.2]) ∧ w' = w := by
  unfold fitF
  by_cases h1 : k < 0
  · rw [if_pos h1]
    go_enter Try.func47, Try.ntmps47
    go_wp2_with fail
    go_ret3
    exact ⟨rfl, rfl⟩
  · rw [if_neg h1]
    by_cases h2 : 6553 < k
    · rw [if_pos h2]
      go_enter Try.func47, Try.ntmps47
      go_wp2_with fail
      go_ret3
      exact ⟨rfl, rfl⟩
    · rw [if_neg h2]
      have et : (10 * k + 7).tdiv 8 = (10 * k + 7) / 8 := Int.tdiv_eq_ediv_of_nonneg (by omega)
      go_enter Try.func47, Try.ntmps47
      go_wp2_with fail
      all_goals (go_ret3; exact ⟨tupA (by omega), rfl⟩)
end Go.Proofs.Ytgjbnampjgpmfaa

/- What the fixed calls of layer 7's 'alive' come to; lists that are too long. -/
namespace Go.Proofs.Ytgjbnampjgpmfaa
open Go.RowKit Go.Joins

theorem gb_zero (d q : Nat) : gb (List.replicate d 0) q = false := by
  unfold gb
  have : (List.replicate d (0 : UInt8)).getD (q / 8) 0 = 0 := by
    simp only [List.getD, List.getElem?_replicate]; split <;> rfl
  rw [this]; exact Nat.zero_testBit _
theorem my_zero (d n h : Nat) (key : List UInt8) (hh : 1 ≤ h) : myF (List.replicate d 0) (plc key n h) = false := by
  obtain ⟨k, rfl⟩ : ∃ k, h = k + 1 := ⟨h - 1, by omega⟩
  unfold myF
  rw [plc_succ, List.all_append]
  simp [gb_zero]
theorem plc_in {key : List UInt8} {D : List UInt8} {h : Nat} (hd : 0 < D.length) : ∀ p ∈ plc key (8 * D.length) h, p / 8 < D.length := by
  intro p hp
  have := plc_lt (key := key) (n := 8 * D.length) (h := h) (by omega) p hp
  omega
theorem my_more (D : List UInt8) (ps : List Nat) (hp : ∀ p ∈ ps, p / 8 < D.length) (qs : List Nat) (hq : myF D qs = true) : myF (adF D ps) qs = true := by
  unfold myF at hq ⊢
  rw [List.all_eq_true] at hq ⊢
  intro q hm
  rw [gb_adF ps D q hp, hq q hm]; rfl
theorem my_added (D : List UInt8) (ps : List Nat) (hp : ∀ p ∈ ps, p / 8 < D.length) : myF (adF D ps) ps = true := by
  unfold myF
  rw [List.all_eq_true]
  intro q hm
  rw [gb_adF ps D q hp]; simp [hm]
theorem reads_a (w1 : World) : Reads (w1.alloc (.cells #[.int .u8 97] 5 (1, 2))) (.slice (some ⟨w1.heap.size, 0, none⟩) 1 1) [97] := by
  refine .inr ⟨w1.heap.size, 0, 1, rfl, by decide, by decide, by decide, by simp, ?_⟩
  intro j hj
  have hj' : j < 1 := hj
  match j, hj' with
  | 0, _ => (rw [Nat.zero_add, cell_alloc_mark_at _ _ _ _ _ _ rfl]; rfl)
end Go.Proofs.Ytgjbnampjgpmfaa

/- Lists of slices of bytes, and as an argument. -/
namespace Go.Proofs.Ytgjbnampjgpmfaa
open Go.RowKit Go.ChangeShapes Go.WideShapes Go.ChangeAt Go.Joins

/-- A slice of slices reads these. -/
def LReads_B (w : World) (v : Value) (L : List (List UInt8)) : Prop :=
  ∃ a cap, v = .slice a L.length cap ∧ L.length ≤ cap ∧ cap ≤ maxLen ∧ (L = [] ∨ ∃ b off, a = some ⟨b, off, none⟩ ∧ b < w.heap.size ∧ ∀ j (hj : j < L.length), ∃ vj, w.cell? ⟨b, off + j, none⟩ = some vj ∧ Reads w vj L[j])
theorem LReads_B.below {w w' : World} {v : Value} {L : List (List UInt8)} (h : LReads_B w v L) (hb : Below w.heap.size w w') : LReads_B w' v L := by
  obtain ⟨a, cap, rfl, h1, h2, h3⟩ := h
  refine ⟨a, cap, rfl, h1, h2, ?_⟩
  rcases h3 with h3 | ⟨b, off, h4, h5, h6⟩
  · exact .inl h3
  · refine .inr ⟨b, off, h4, Nat.lt_of_lt_of_le h5 hb.size, fun j hj => ?_⟩
    obtain ⟨vj, g1, g2⟩ := h6 j hj
    exact ⟨vj, (hb.cell (p := ⟨b, off + j, none⟩) h5).trans g1, g2.below hb⟩
theorem LReads_B.take {w : World} {a : Option Addr} {n cap : Nat} {L : List (List UInt8)} (h : LReads_B w (.slice a n cap) L) {c : Nat} (hc : c ≤ L.length) : LReads_B w (.slice a c cap) (L.take c) := by
  obtain ⟨a', cap', hv, h1, h2, h3⟩ := h
  simp at hv
  obtain ⟨rfl, rfl, rfl⟩ := hv
  refine ⟨_, _, by rw [List.length_take, Nat.min_eq_left hc], by simp; omega, h2, ?_⟩
  rcases h3 with rfl | ⟨b, off, h4, h5, h6⟩
  · exact .inl (by simp)
  · refine .inr ⟨b, off, h4, h5, fun j hj => ?_⟩
    obtain ⟨vj, g1, g2⟩ := h6 j (by simp at hj; omega)
    exact ⟨vj, g1, by simpa using g2⟩
theorem openB_B' {H : Type} {enc : TypeId × Value → H} {W : World} {base : Nat} {spare : Nat → Bool} {held : Bool} {cs : List Value} {x : DataW H × List MemPlace} {fuel : Nat}
    (hf : DataW.trod enc Try.prog W base spare held fuel 22 cs = some x) : ∃ v l, cs = [v] ∧ Reads W v l := by
  rcases open_ints Try.underlying22 Try.underlying5 (by kernel_rfl) hf with ⟨rfl, _⟩ | ⟨x, len, cap, zs, rfl, _, hl, hm, hz, _, hcell, hwz⟩
  · exact ⟨_, [], rfl, .inl ⟨rfl, _, _, rfl, fun _ => rfl⟩⟩
  · have hzl : len ≤ zs.length := by rw [hz]; split <;> omega
    rcases Nat.eq_zero_or_pos len with h0 | h0
    · subst h0; exact ⟨_, [], rfl, .inl ⟨rfl, _, _, rfl, fun h => by cases h⟩⟩
    · refine ⟨_, (zs.take len).map fun z => UInt8.ofNat z.toNat, rfl, .inr ?_⟩
      have hlen : ((zs.take len).map fun z => UInt8.ofNat z.toNat).length = len := by simp; omega
      have c0 := hcell 0 (by omega)
      have e0 : x.add 0 = x := by simp [Addr.add]
      rw [e0] at c0
      obtain ⟨hb, hs⟩ := cell_block c0
      obtain ⟨b, off, spot⟩ := x
      simp only at hb hs
      subst hs
      refine ⟨b, off, cap, by rw [hlen], by omega, by omega, hm, hb, fun j hj => ?_⟩
      have hj' : j < len := by omega
      have cj := hcell j (by omega)
      have ea : (⟨b, off, none⟩ : Addr).add j = ⟨b, off + j, none⟩ := by simp [Addr.add]
      rw [ea] at cj
      rw [cj]
      have hzj : j < zs.length := by omega
      have hg : zs.getD j 0 = zs[j] := by simp [List.getD, hzj]
      have hw := bounds_u8 (hwz zs[j] (List.getElem_mem hzj))
      rw [hg]
      have e1 : ((zs.take len).map fun z => UInt8.ofNat z.toNat)[j] = UInt8.ofNat (zs[j]).toNat := by simp
      rw [e1]
      unfold bc
      have e2 : (UInt8.ofNat (zs[j]).toNat).toNat = (zs[j]).toNat := by simp [UInt8.toNat_ofNat']; omega
      rw [e2]
      congr 2
      omega
set_option maxRecDepth 100000 in
theorem openL_B {H : Type} {enc : TypeId × Value → H} {W : World} {r : Reach} {b0 base : Nat} {spare : Nat → Bool} {held : Bool} {v : Value} {d : DataW H} {p : List MemPlace}
    (hv : Value.okWide Try.prog W r b0 74 v) (h : DataW.Trod enc Try.prog W base spare held 74 v d p) : ∃ L : List (List UInt8), LReads_B W v L := by
  obtain ⟨a, len, cap, rfl⟩ := okWide_slice Try.underlying74 hv
  obtain ⟨fuel, hf⟩ := h
  rcases Go.Deep.open_slice Try.underlying74 hf with ⟨hcs, _⟩ | ⟨x, l, c, m, n, D, Pl, hcs, _, hl, hm, hz, _, hcell⟩
  · simp [Value.cells] at hcs
    obtain ⟨rfl, rfl, rfl⟩ := hcs
    exact ⟨[], none, 0, rfl, by simp, by simp, .inl rfl⟩
  · simp [Value.cells] at hcs
    obtain ⟨rfl, rfl, rfl⟩ := hcs
    have hzl : len ≤ m := by rw [hz]; split <;> omega
    have hce : Try.prog.cellsOf 22 = 1 := by kernel_rfl
    rw [hce] at hcell
    have hall : ∀ j, ∃ (vj : Value) (lj : List UInt8), j < len → W.cell? (x.add j) = some vj ∧ Reads W vj lj := by
      intro j
      by_cases hj : j < len
      · obtain ⟨cs', hc1, hc2⟩ := hcell j (by omega)
        obtain ⟨vj, lj, rfl, hr⟩ := openB_B' hc2
        obtain ⟨_, _, hq⟩ := World.cells?_some hc1
        refine ⟨vj, lj, fun _ => ⟨?_, hr⟩⟩
        have := hq 0 (by omega)
        simpa [Addr.add] using this
      · exact ⟨.bool false, [], fun h => absurd h hj⟩
    obtain ⟨vs, hvs⟩ := Classical.axiomOfChoice hall
    obtain ⟨ls, hls⟩ := Classical.axiomOfChoice hvs
    rcases Nat.eq_zero_or_pos len with h0 | h0
    · subst h0
      exact ⟨[], _, cap, rfl, by simp, hm, .inl rfl⟩
    · have c0 := (hls 0 h0).1
      have e0 : x.add 0 = x := by simp [Addr.add]
      rw [e0] at c0
      obtain ⟨hb, hs⟩ := cell_block c0
      obtain ⟨b, off, spot⟩ := x
      simp only at hb hs
      subst hs
      refine ⟨(List.range len).map ls, _, cap, by simp, by simpa using hl, hm, .inr ⟨b, off, rfl, hb, fun j hj => ?_⟩⟩
      simp at hj
      obtain ⟨g1, g2⟩ := hls j hj
      refine ⟨vs j, ?_, by simpa using g2⟩
      have ea : (⟨b, off, none⟩ : Addr).add j = ⟨b, off + j, none⟩ := by simp [Addr.add]
      rw [ea] at g1
      exact g1
end Go.Proofs.Ytgjbnampjgpmfaa

/- Whether lists are too long; a filter that no call made. -/
namespace Go.Proofs.Ytgjbnampjgpmfaa
open Go.RowKit

def lgF (L : List (List UInt8)) : Bool := decide (100 < L.length) || L.any fun l => decide (300 < l.length)
theorem lg_no {L : List (List UInt8)} (h : lgF L = false) : L.length ≤ 100 ∧ ∀ l ∈ L, l.length ≤ 300 := by
  unfold lgF at h
  simp only [Bool.or_eq_false_iff, decide_eq_false_iff_not, List.any_eq_false, decide_eq_true_eq] at h
  exact ⟨by omega, fun l hl => by have := h.2 l hl; omega⟩
theorem made_nil (w : World) : Calls Try.prog 35 #[.pointer none] w fun e w' => e = .returned (.bool false) ∧ w' = w := by
  go_enter Try.func35, Try.ntmps35
  go_wp2_with fail
  go_ret
  exact ⟨rfl, rfl⟩
theorem made_zero (w : World) (B : Nat) (c0 : w.cell? ⟨B, 0, none⟩ = some (.int .i64 0)) : Calls Try.prog 35 #[.pointer (some ⟨B, 0, none⟩)] w fun e w' => e = .returned (.bool false) ∧ w' = w := by
  go_enter Try.func35, Try.ntmps35
  go_wp2_with fail
  go_ret
  exact ⟨rfl, rfl⟩
/-- No filter, or one that no call made. -/
def NoF (w : World) (p : Option Addr) : Prop := p = none ∨ ∃ B, p = some ⟨B, 0, none⟩ ∧ B < w.heap.size ∧ w.cell? ⟨B, 0, none⟩ = some (.int .i64 0)
theorem NoF.below {w w' : World} {p : Option Addr} (h : NoF w p) (hb : Below w.heap.size w w') : NoF w' p := by
  rcases h with h | ⟨B, h1, h2, h3⟩
  · exact .inl h
  · exact .inr ⟨B, h1, Nat.lt_of_lt_of_le h2 hb.size, (hb.cell (p := ⟨B, 0, none⟩) h2).trans h3⟩
theorem made_no {w : World} {p : Option Addr} (h : NoF w p) : Calls Try.prog 35 #[.pointer p] w fun e w' => e = .returned (.bool false) ∧ w' = w := by
  rcases h with rfl | ⟨B, rfl, _, h3⟩
  · exact made_nil w
  · exact made_zero w B h3
theorem add_no (p : Option Addr) (a : Option Addr) (len cap : Nat) (w : World) (h : NoF w p) : Calls Try.prog 49 #[.pointer p, .slice a len cap] w fun e w' => e = .returned (.int .i64 6) ∧ Below w.heap.size w w' := by
  have HN : Hid (NoF (w.alloc (.cells #[.pointer p] 26)) p) := h.below ((Below.refl _ _).alloc (Nat.le_refl _) _)
  have HB : Hid (Below w.heap.size w (w.alloc (.cells #[.pointer p] 26))) := (Below.refl _ _).alloc (Nat.le_refl _) _
  go_enter Try.func49, Try.ntmps49
  go_wp2_with fail
  refine (made_no HN.out).mono ?_
  rintro e w' ⟨rfl, hw⟩
  subst w'
  go_wp2_with fail
  go_ret
  exact ⟨rfl, HB.out⟩
theorem may_no (p : Option Addr) (a : Option Addr) (len cap : Nat) (w : World) (h : NoF w p) : Calls Try.prog 19 #[.pointer p, .slice a len cap] w fun e w' => e = .returned (.bool true) ∧ Below w.heap.size w w' := by
  have hb1 := ((Below.refl w.heap.size w).alloc (Nat.le_refl _) (.cells #[.pointer p] 26)).alloc (by simp) (.cells #[.bool false] 4)
  have HN : Hid (NoF ((w.alloc (.cells #[.pointer p] 26)).alloc (.cells #[.bool false] 4)) p) := h.below hb1
  clear hb1
  go_enter Try.func19, Try.ntmps19
  go_wp2_with fail
  refine (made_no HN.out).mono ?_
  rintro e w' ⟨rfl, hw⟩
  subst w'
  go_wp2_with fail
  have hbx := Boxed.new (w.alloc (.cells #[.pointer p] 26)) 4 (.bool true)
  rw [World.size_alloc] at hbx
  exact bodyPost_ret (results_box rfl _ _ ⟨w.heap.size + 1, 0, none⟩ (.bool true) rfl hbx.cell (by simp [isAgg, go_sem])) rfl ⟨rfl, ((Below.refl w.heap.size w).alloc (Nat.le_refl _) _).alloc (by simp) _⟩
theorem write_no (p : Option Addr) (w : World) (h : NoF w p) : Calls Try.prog 50 #[.pointer p] w fun e w' => e = .returned (.tuple #[.slice none 0 0, .int .i64 6]) ∧ w' = w := by
  have HN : Hid (NoF w p) := h
  clear h
  go_enter Try.func50, Try.ntmps50
  go_wp2_with fail
  refine (made_no HN.out).mono ?_
  rintro e w' ⟨rfl, hw⟩
  subst w'
  go_wp2_with fail
  go_ret2
  exact ⟨rfl, rfl⟩
end Go.Proofs.Ytgjbnampjgpmfaa
