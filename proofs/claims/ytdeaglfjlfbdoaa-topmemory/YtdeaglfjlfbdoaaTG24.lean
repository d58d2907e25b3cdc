/- B6 LR B7, joined. -/
import Derived.Test.YtdeaglfjlfbdoaaTG10
import Derived.Test.YtdeaglfjlfbdoaaTG23
import Derived.Lib.SmallJoins
import Derived.Deep.Slices
/- What the fixed calls of layer 7's 'alive' come to; lists that are too long. -/
namespace Go.Proofs.Ytdeaglfjlfbdoaa
open Go.RowKit Go.Joins

theorem gb_zero (d q : Nat) : gb (List.replicate d 0) q = false := by
  unfold gb
  have : (List.replicate d (0 : UInt8)).getD (q / 8) 0 = 0 := by
    simp only [List.getD, List.getElem?_replicate]; split <;> rfl
  rw [this]; exact Nat.zero_testBit _
theorem my_zero (d n h : Nat) (key : List UInt8) (hh : 1 ≤ h) : myF (List.replicate d 0) (plc key n h) = false := by
  obtain ⟨k, rfl⟩ : ∃ k, h = k + 1 := ⟨h - 1, by omega⟩
  unfold myF
  rw [plc_succ, List.all_append]
  simp [gb_zero]
theorem plc_in {key : List UInt8} {D : List UInt8} {h : Nat} (hd : 0 < D.length) : ∀ p ∈ plc key (8 * D.length) h, p / 8 < D.length := by
  intro p hp
  have := plc_lt (key := key) (n := 8 * D.length) (h := h) (by omega) p hp
  omega
theorem my_more (D : List UInt8) (ps : List Nat) (hp : ∀ p ∈ ps, p / 8 < D.length) (qs : List Nat) (hq : myF D qs = true) : myF (adF D ps) qs = true := by
  unfold myF at hq ⊢
  rw [List.all_eq_true] at hq ⊢
  intro q hm
  rw [gb_adF ps D q hp, hq q hm]; rfl
theorem my_added (D : List UInt8) (ps : List Nat) (hp : ∀ p ∈ ps, p / 8 < D.length) : myF (adF D ps) ps = true := by
  unfold myF
  rw [List.all_eq_true]
  intro q hm
  rw [gb_adF ps D q hp]; simp [hm]
theorem reads_a (w1 : World) : Reads (w1.alloc (.cells #[.int .u8 97] 5 (1, 2))) (.slice (some ⟨w1.heap.size, 0, none⟩) 1 1) [97] := by
  refine .inr ⟨w1.heap.size, 0, 1, rfl, by decide, by decide, by decide, by simp, ?_⟩
  intro j hj
  have hj' : j < 1 := hj
  match j, hj' with
  | 0, _ => (rw [Nat.zero_add, cell_alloc_mark_at _ _ _ _ _ _ rfl]; rfl)
end Go.Proofs.Ytdeaglfjlfbdoaa

/- Lists of slices of bytes, and as an argument. -/
namespace Go.Proofs.Ytdeaglfjlfbdoaa
open Go.RowKit Go.ChangeShapes Go.WideShapes Go.ChangeAt Go.Joins

/-- A slice of slices reads these. -/
def LReads (w : World) (v : Value) (L : List (List UInt8)) : Prop :=
  ∃ a cap, v = .slice a L.length cap ∧ L.length ≤ cap ∧ cap ≤ maxLen ∧ (L = [] ∨ ∃ b off, a = some ⟨b, off, none⟩ ∧ b < w.heap.size ∧ ∀ j (hj : j < L.length), ∃ vj, w.cell? ⟨b, off + j, none⟩ = some vj ∧ Reads w vj L[j])
theorem LReads.below {w w' : World} {v : Value} {L : List (List UInt8)} (h : LReads w v L) (hb : Below w.heap.size w w') : LReads w' v L := by
  obtain ⟨a, cap, rfl, h1, h2, h3⟩ := h
  refine ⟨a, cap, rfl, h1, h2, ?_⟩
  rcases h3 with h3 | ⟨b, off, h4, h5, h6⟩
  · exact .inl h3
  · refine .inr ⟨b, off, h4, Nat.lt_of_lt_of_le h5 hb.size, fun j hj => ?_⟩
    obtain ⟨vj, g1, g2⟩ := h6 j hj
    exact ⟨vj, (hb.cell (p := ⟨b, off + j, none⟩) h5).trans g1, g2.below hb⟩
theorem LReads.take {w : World} {a : Option Addr} {n cap : Nat} {L : List (List UInt8)} (h : LReads w (.slice a n cap) L) {c : Nat} (hc : c ≤ L.length) : LReads w (.slice a c cap) (L.take c) := by
  obtain ⟨a', cap', hv, h1, h2, h3⟩ := h
  simp at hv
  obtain ⟨rfl, rfl, rfl⟩ := hv
  refine ⟨_, _, by rw [List.length_take, Nat.min_eq_left hc], by simp; omega, h2, ?_⟩
  rcases h3 with rfl | ⟨b, off, h4, h5, h6⟩
  · exact .inl (by simp)
  · refine .inr ⟨b, off, h4, h5, fun j hj => ?_⟩
    obtain ⟨vj, g1, g2⟩ := h6 j (by simp at hj; omega)
    exact ⟨vj, g1, by simpa using g2⟩
theorem openBB' {H : Type} {enc : TypeId × Value → H} {W : World} {base : Nat} {spare : Nat → Bool} {held : Bool} {cs : List Value} {x : DataW H × List MemPlace} {fuel : Nat}
    (hf : DataW.trod enc Try.prog W base spare held fuel 23 cs = some x) : ∃ v l, cs = [v] ∧ Reads W v l := by
  rcases open_ints Try.underlying23 Try.underlying5 (by kernel_rfl) hf with ⟨rfl, _⟩ | ⟨x, len, cap, zs, rfl, _, hl, hm, hz, _, hcell, hwz⟩
  · exact ⟨_, [], rfl, .inl ⟨rfl, _, _, rfl, fun _ => rfl⟩⟩
  · have hzl : len ≤ zs.length := by rw [hz]; split <;> omega
    rcases Nat.eq_zero_or_pos len with h0 | h0
    · subst h0; exact ⟨_, [], rfl, .inl ⟨rfl, _, _, rfl, fun h => by cases h⟩⟩
    · refine ⟨_, (zs.take len).map fun z => UInt8.ofNat z.toNat, rfl, .inr ?_⟩
      have hlen : ((zs.take len).map fun z => UInt8.ofNat z.toNat).length = len := by simp; omega
      have c0 := hcell 0 (by omega)
      have e0 : x.add 0 = x := by simp [Addr.add]
      rw [e0] at c0
      obtain ⟨hb, hs⟩ := cell_block c0
      obtain ⟨b, off, spot⟩ := x
      simp only at hb hs
      subst hs
      refine ⟨b, off, cap, by rw [hlen], by omega, by omega, hm, hb, fun j hj => ?_⟩
      have hj' : j < len := by omega
      have cj := hcell j (by omega)
      have ea : (⟨b, off, none⟩ : Addr).add j = ⟨b, off + j, none⟩ := by simp [Addr.add]
      rw [ea] at cj
      rw [cj]
      have hzj : j < zs.length := by omega
      have hg : zs.getD j 0 = zs[j] := by simp [List.getD, hzj]
      have hw := bounds_u8 (hwz zs[j] (List.getElem_mem hzj))
      rw [hg]
      have e1 : ((zs.take len).map fun z => UInt8.ofNat z.toNat)[j] = UInt8.ofNat (zs[j]).toNat := by simp
      rw [e1]
      unfold bc
      have e2 : (UInt8.ofNat (zs[j]).toNat).toNat = (zs[j]).toNat := by simp [UInt8.toNat_ofNat']; omega
      rw [e2]
      congr 2
      omega
end Go.Proofs.Ytdeaglfjlfbdoaa

/- Whether lists are too long; a filter that no call made. -/
namespace Go.Proofs.Ytdeaglfjlfbdoaa
open Go.RowKit

def lgF (L : List (List UInt8)) : Bool := decide (100 < L.length) || L.any fun l => decide (300 < l.length)
theorem lg_no {L : List (List UInt8)} (h : lgF L = false) : L.length ≤ 100 ∧ ∀ l ∈ L, l.length ≤ 300 := by
  unfold lgF at h
  simp only [Bool.or_eq_false_iff, decide_eq_false_iff_not, List.any_eq_false, decide_eq_true_eq] at h
  exact ⟨by omega, fun l hl => by have := h.2 l hl; omega⟩
theorem made_nil (w : World) : Calls Try.prog 27 #[.pointer none] w fun e w' => e = .returned (.bool false) ∧ w' = w := by
  go_enter Try.func27, Try.ntmps27
  go_wp2_with fail
  go_ret
  exact ⟨rfl, rfl⟩
theorem made_zero (w : World) (B : Nat) (c0 : w.cell? ⟨B, 0, none⟩ = some (.int .i64 0)) : Calls Try.prog 27 #[.pointer (some ⟨B, 0, none⟩)] w fun e w' => e = .returned (.bool false) ∧ w' = w := by
  go_enter Try.func27, Try.ntmps27
  go_wp2_with fail
  go_ret
  exact ⟨rfl, rfl⟩
/-- No filter, or one that no call made. -/
def NoF (w : World) (p : Option Addr) : Prop := p = none ∨ ∃ B, p = some ⟨B, 0, none⟩ ∧ B < w.heap.size ∧ w.cell? ⟨B, 0, none⟩ = some (.int .i64 0)
theorem NoF.below {w w' : World} {p : Option Addr} (h : NoF w p) (hb : Below w.heap.size w w') : NoF w' p := by
  rcases h with h | ⟨B, h1, h2, h3⟩
  · exact .inl h
  · exact .inr ⟨B, h1, Nat.lt_of_lt_of_le h2 hb.size, (hb.cell (p := ⟨B, 0, none⟩) h2).trans h3⟩
theorem made_no {w : World} {p : Option Addr} (h : NoF w p) : Calls Try.prog 27 #[.pointer p] w fun e w' => e = .returned (.bool false) ∧ w' = w := by
  rcases h with rfl | ⟨B, rfl, _, h3⟩
  · exact made_nil w
  · exact made_zero w B h3
theorem add_no (p : Option Addr) (a : Option Addr) (len cap : Nat) (w : World) (h : NoF w p) : Calls Try.prog 11 #[.pointer p, .slice a len cap] w fun e w' => e = .returned (.int .i64 6) ∧ Below w.heap.size w w' := by
  have HN : Hid (NoF (w.alloc (.cells #[.pointer p] 28)) p) := h.below ((Below.refl _ _).alloc (Nat.le_refl _) _)
  have HB : Hid (Below w.heap.size w (w.alloc (.cells #[.pointer p] 28))) := (Below.refl _ _).alloc (Nat.le_refl _) _
  go_enter Try.func11, Try.ntmps11
  go_wp2_with fail
  refine (made_no HN.out).mono ?_
  rintro e w' ⟨rfl, hw⟩
  subst w'
  go_wp2_with fail
  go_ret
  exact ⟨rfl, HB.out⟩
theorem may_no (p : Option Addr) (a : Option Addr) (len cap : Nat) (w : World) (h : NoF w p) : Calls Try.prog 14 #[.pointer p, .slice a len cap] w fun e w' => e = .returned (.bool true) ∧ Below w.heap.size w w' := by
  have hb1 := ((Below.refl w.heap.size w).alloc (Nat.le_refl _) (.cells #[.pointer p] 28)).alloc (by simp) (.cells #[.bool false] 4)
  have HN : Hid (NoF ((w.alloc (.cells #[.pointer p] 28)).alloc (.cells #[.bool false] 4)) p) := h.below hb1
  clear hb1
  go_enter Try.func14, Try.ntmps14
  go_wp2_with fail
  refine (made_no HN.out).mono ?_
  rintro e w' ⟨rfl, hw⟩
  subst w'
  go_wp2_with fail
  have hbx := Boxed.new (w.alloc (.cells #[.pointer p] 28)) 4 (.bool true)
  rw [World.size_alloc] at hbx
  exact bodyPost_ret (results_box rfl _ _ ⟨w.heap.size + 1, 0, none⟩ (.bool true) rfl hbx.cell (by simp [isAgg, go_sem])) rfl ⟨rfl, ((Below.refl w.heap.size w).alloc (Nat.le_refl _) _).alloc (by simp) _⟩
end Go.Proofs.Ytdeaglfjlfbdoaa
