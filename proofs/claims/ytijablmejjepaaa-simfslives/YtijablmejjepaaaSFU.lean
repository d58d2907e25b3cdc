/- law11's arguments. -/
import Derived.Test.YtijablmejjepaaaSFT
import Derived.Test.YtijablmejjepaaaOB
import Derived.Deep.Slices
import Derived.Deep.MidRow
namespace Go.Proofs.Ytijablmejjepaaa
open Go.ChangeShapes Go.WideShapes Go.ChangeAt Go.RowKit Go.Joins

theorem sol {α : Type} {xs : List α} {n i : Nat} (h : xs.length = n) (hi : i < n) : ∃ y, xs[i]? = some y := ⟨xs[i], by rw [List.getElem?_eq_getElem (by omega)]⟩
set_option maxRecDepth 100000 in
theorem openB11 {H : Type} {enc : TypeId × Value → H} {W : World} {base : Nat} {spare : Nat → Bool} {held : Bool} {cs : List Value} {x : DataW H × List MemPlace} {fuel : Nat}
    (hf : DataW.trod enc Try.prog W base spare held fuel 31 cs = some x) : ∃ v l, cs = [v] ∧ Reads W v l := by
  rcases open_ints Try.underlying31 Try.underlying5 (by kernel_rfl) hf with ⟨rfl, _⟩ | ⟨x, len, cap, zs, rfl, _, hl, hm, hz, _, hcell, hwz⟩
  · exact ⟨_, [], rfl, .inl ⟨rfl, _, _, rfl, fun _ => rfl⟩⟩
  · have hzl : len ≤ zs.length := by rw [hz]; split <;> omega
    rcases Nat.eq_zero_or_pos len with h0 | h0
    · subst h0; exact ⟨_, [], rfl, .inl ⟨rfl, _, _, rfl, fun h => by cases h⟩⟩
    · refine ⟨_, (zs.take len).map fun z => UInt8.ofNat z.toNat, rfl, .inr ?_⟩
      have hlen : ((zs.take len).map fun z => UInt8.ofNat z.toNat).length = len := by simp; omega
      have c0 := hcell 0 (by omega)
      have e0 : x.add 0 = x := by simp [Addr.add]
      rw [e0] at c0
      obtain ⟨hb, hs⟩ := cell_block c0
      obtain ⟨b, off, spot⟩ := x
      simp only at hb hs
      subst hs
      refine ⟨b, off, cap, by rw [hlen], by omega, by omega, hm, hb, fun j hj => ?_⟩
      have hj' : j < len := by omega
      have cj := hcell j (by omega)
      have ea : (⟨b, off, none⟩ : Addr).add j = ⟨b, off + j, none⟩ := by simp [Addr.add]
      rw [ea] at cj
      rw [cj]
      have hzj : j < zs.length := by omega
      have hg : zs.getD j 0 = zs[j] := by simp [List.getD, hzj]
      have hw := bounds_u8 (hwz zs[j] (List.getElem_mem hzj))
      rw [hg]
      have e1 : ((zs.take len).map fun z => UInt8.ofNat z.toNat)[j] = UInt8.ofNat (zs[j]).toNat := by simp
      rw [e1]
      unfold bc
      have e2 : (UInt8.ofNat (zs[j]).toNat).toNat = (zs[j]).toNat := by simp [UInt8.toNat_ofNat']; omega
      rw [e2]
      congr 2
      omega
set_option maxRecDepth 100000 in
theorem openK11 {H : Type} {enc : TypeId × Value → H} {W : World} {base : Nat} {spare : Nat → Bool} {held : Bool} {cs : List Value} {x : DataW H × List MemPlace} {fuel : Nat}
    (hf : DataW.trod enc Try.prog W base spare held fuel 32 cs = some x) : ∃ v l, cs = [v] ∧ KReads W v l := by
  rcases open_ints Try.underlying32 Try.underlying3 (by kernel_rfl) hf with ⟨rfl, _⟩ | ⟨x, len, cap, zs, rfl, _, hl, hm, hz, _, hcell, hwz⟩
  · exact ⟨_, [], rfl, kreads_nil W⟩
  · have hzl : len ≤ zs.length := by rw [hz]; split <;> omega
    have hlen : (zs.take len).length = len := by simp; omega
    refine ⟨_, zs.take len, rfl, _, cap, by rw [hlen], by omega, ?_⟩
    rcases Nat.eq_zero_or_pos len with h0 | h0
    · subst h0; exact .inl rfl
    · right
      have c0 := hcell 0 (by omega)
      have e0 : x.add 0 = x := by simp [Addr.add]
      rw [e0] at c0
      obtain ⟨hb, hs⟩ := cell_block c0
      obtain ⟨b, off, spot⟩ := x
      simp only at hb hs
      subst hs
      refine ⟨b, off, rfl, hb, fun j hj => ?_⟩
      have hj' : j < len := by omega
      have cj := hcell j (by omega)
      have ea : (⟨b, off, none⟩ : Addr).add j = ⟨b, off + j, none⟩ := by simp [Addr.add]
      rw [ea] at cj
      rw [cj]
      have hzj : j < zs.length := by omega
      have hg : zs.getD j 0 = zs[j] := by simp [List.getD, hzj]
      rw [hg]
      simp
set_option maxRecDepth 100000 in
theorem openKs {H : Type} {enc : TypeId × Value → H} {W : World} {r : Reach} {b0 base : Nat} {spare : Nat → Bool} {held : Bool} {v : Value} {d : DataW H} {p : List MemPlace}
    (hv : Value.okWide Try.prog W r b0 32 v) (h : DataW.Trod enc Try.prog W base spare held 32 v d p) : ∃ l : List Int, KReads W v l := by
  obtain ⟨a, len, cap, rfl⟩ := okWide_slice Try.underlying32 hv
  obtain ⟨fuel, hf⟩ := h
  obtain ⟨v', l, e, hr⟩ := openK11 hf
  simp [Value.cells] at e
  subst e
  exact ⟨l, hr⟩
theorem cI : Try.prog.cellsOf 3 = 1 := by kernel_rfl
theorem cS : Try.prog.cellsOf 9 = 1 := by kernel_rfl
theorem cB : Try.prog.cellsOf 31 = 1 := by kernel_rfl
theorem cK : Try.prog.cellsOf 32 = 1 := by kernel_rfl
theorem cE : Try.prog.cellsOf 24 = 1 := by kernel_rfl
set_option maxRecDepth 100000 in
theorem openOp' {H : Type} {enc : TypeId × Value → H} {W : World} {base : Nat} {spare : Nat → Bool} {held : Bool} {c0 c1 c2 c3 c4 c5 c6 : Value} {x : DataW H × List MemPlace} {fuel : Nat}
    (hf : DataW.trod enc Try.prog W base spare held fuel 34 [c0, c1, c2, c3, c4, c5, c6] = some x) : ∃ o : SfO, [c0, c1, c2, c3, c4, c5, c6] = o7 o ∧ SfOk W o := by
  obtain ⟨xs, n, _, _, _, hlen, hfs⟩ := DataW.trod_struct Try.underlying34 hf
  obtain ⟨y0, g0⟩ := sol (i := 0) hlen (by decide)
  obtain ⟨y1, g1⟩ := sol (i := 1) hlen (by decide)
  obtain ⟨y2, g2⟩ := sol (i := 2) hlen (by decide)
  obtain ⟨y3, g3⟩ := sol (i := 3) hlen (by decide)
  obtain ⟨y4, g4⟩ := sol (i := 4) hlen (by decide)
  obtain ⟨y5, g5⟩ := sol (i := 5) hlen (by decide)
  obtain ⟨y6, g6⟩ := sol (i := 6) hlen (by decide)
  have e0 := (hfs 0 _ rfl).trans g0
  have e1 := (hfs 1 _ rfl).trans g1
  have e2 := (hfs 2 _ rfl).trans g2
  have e3 := (hfs 3 _ rfl).trans g3
  have e4 := (hfs 4 _ rfl).trans g4
  have e5 := (hfs 5 _ rfl).trans g5
  have e6 := (hfs 6 _ rfl).trans g6
  simp [cI] at e0
  simp [cS] at e1
  simp [cS] at e2
  simp [cB] at e3
  simp [cI] at e4
  simp [cK] at e5
  simp [cE] at e6
  obtain ⟨a0, q0, _, w0⟩ := DataW.trod_int Try.underlying3 e0
  obtain ⟨s1, q1, _, w1⟩ := DataW.trod_string Try.underlying9 e1
  obtain ⟨s2, q2, _, w2⟩ := DataW.trod_string Try.underlying9 e2
  obtain ⟨v3, l3, q3, r3⟩ := openB11 e3
  obtain ⟨a4, q4, _, w4⟩ := DataW.trod_int Try.underlying3 e4
  obtain ⟨v5, l5, q5, r5⟩ := openK11 e5
  obtain ⟨a6, q6, _, w6⟩ := DataW.trod_int Try.underlying24 e6
  simp at q0 q1 q2 q3 q4 q5 q6
  subst q0 q1 q2 q3 q4 q5 q6
  have b4 := bounds_i64 w4
  refine ⟨⟨a0, s1.data.toList, s2.data.toList, _, l3, a4, _, l5, a6⟩, ?_, r3, r5, by show a4 < _; omega, by rw [Array.length_toList]; exact w1, by rw [Array.length_toList]; exact w2⟩
  unfold o7
  simp only
theorem seven_of {α : Type} : ∀ {l : List α}, l.length = 7 → ∃ c0 c1 c2 c3 c4 c5 c6, l = [c0, c1, c2, c3, c4, c5, c6]
  | [c0, c1, c2, c3, c4, c5, c6], _ => ⟨c0, c1, c2, c3, c4, c5, c6, rfl⟩
set_option maxRecDepth 100000 in
theorem openOs {H : Type} {enc : TypeId × Value → H} {W : World} {r : Reach} {b0 base : Nat} {spare : Nat → Bool} {held : Bool} {v : Value} {d : DataW H} {p : List MemPlace}
    (hv : Value.okWide Try.prog W r b0 22 v) (h : DataW.Trod enc Try.prog W base spare held 22 v d p) : ∃ L : List SfO, OsR W v L := by
  obtain ⟨a, len, cap, rfl⟩ := okWide_slice Try.underlying22 hv
  obtain ⟨fuel, hf⟩ := h
  rcases Go.Deep.open_slice Try.underlying22 hf with ⟨hcs, _⟩ | ⟨x, l, c, m, n, D, Pl, hcs, _, hl, hm, hz, _, hcell⟩
  · simp [Value.cells] at hcs
    obtain ⟨rfl, rfl, rfl⟩ := hcs
    exact ⟨[], none, 0, rfl, by simp, .inl rfl⟩
  · simp [Value.cells] at hcs
    obtain ⟨rfl, rfl, rfl⟩ := hcs
    have hzl : len ≤ m := by rw [hz]; split <;> omega
    have hce : Try.prog.cellsOf 34 = 7 := by kernel_rfl
    rw [hce] at hcell
    have hall : ∀ j, ∃ (y : SfO), j < len → (∀ i (hi : i < 7), W.cell? ((x.add (j * 7)).add i) = some ((o7 y)[i]'hi)) ∧ SfOk W y := by
      intro j
      by_cases hj : j < len
      · obtain ⟨cs', hc1, hc2⟩ := hcell j (by omega)
        obtain ⟨_, hl2, hq⟩ := World.cells?_some hc1
        obtain ⟨c0, c1, c2, c3, c4, c5, c6, rfl⟩ := seven_of hl2
        obtain ⟨q, hr, hk⟩ := openOp' hc2
        refine ⟨q, fun _ => ⟨fun i hi => ?_, hk⟩⟩
        have h0 := hq i (by simpa using hi)
        rw [h0, hr, List.getElem?_eq_getElem (show i < (o7 q).length from hi)]
        rfl
      · exact ⟨⟨0, [], [], .bool false, [], 0, .bool false, [], 0⟩, fun h => absurd h hj⟩
    obtain ⟨ys, hys⟩ := Classical.axiomOfChoice hall
    have hmx : len ≤ maxLen := by omega
    rcases Nat.eq_zero_or_pos len with h0 | h0
    · subst h0
      exact ⟨[], _, cap, rfl, by simp, .inl rfl⟩
    · have k0 := (hys 0 h0).1 0 (by decide)
      have e0 : (x.add (0 * 7)).add 0 = x := by simp [Addr.add]
      rw [e0] at k0
      obtain ⟨hb, hs⟩ := cell_block k0
      obtain ⟨b, off, spot⟩ := x
      simp only at hb hs
      subst hs
      refine ⟨(List.range len).map ys, _, cap, by simp, by simpa using hmx, .inr ⟨b, off, rfl, hb, fun j hj => ?_⟩⟩
      simp at hj
      obtain ⟨g1, g2⟩ := hys j hj
      have e : ((List.range len).map ys)[j]'(by simpa using hj) = ys j := by simp
      rw [e]
      refine ⟨fun i hi => ?_, g2⟩
      have g := g1 i hi
      have ea : (⟨b, off, none⟩ : Addr).add (j * 7) = ⟨b, off + j * 7, none⟩ := by simp [Addr.add]
      have eb : (⟨b, off + j * 7, none⟩ : Addr).add i = ⟨b, off + j * 7 + i, none⟩ := by simp [Addr.add]
      rw [ea, eb, Nat.add_assoc] at g
      exact g
theorem arr7 {α : Type} {cs : Array α} (h : cs.size = 7) : ∃ c0 c1 c2 c3 c4 c5 c6, cs = #[c0, c1, c2, c3, c4, c5, c6] := by
  obtain ⟨l⟩ := cs
  match l, h with
  | [c0, c1, c2, c3, c4, c5, c6], _ => exact ⟨c0, c1, c2, c3, c4, c5, c6, rfl⟩
set_option maxRecDepth 100000 in
theorem openOp {H : Type} {enc : TypeId × Value → H} {W : World} {r : Reach} {b0 base : Nat} {spare : Nat → Bool} {held : Bool} {v : Value} {d : DataW H} {p : List MemPlace}
    (hv : Value.okWide Try.prog W r b0 34 v) (h : DataW.Trod enc Try.prog W base spare held 34 v d p) : ∃ o : SfO, v = .agg (o7 o).toArray ∧ SfOk W o := by
  obtain ⟨cs, rfl, hsz⟩ := okWide_struct Try.underlying34 hv
  obtain ⟨c0, c1, c2, c3, c4, c5, c6, rfl⟩ := arr7 (hsz.trans (by kernel_rfl))
  obtain ⟨fuel, hf⟩ := h
  obtain ⟨o, e, hr⟩ := openOp' hf
  refine ⟨o, ?_, hr⟩
  rw [← e]
end Go.Proofs.Ytijablmejjepaaa
