/- OB OE S16 S17, joined. -/
import Derived.Test.YtoibmjmajbkbcaaSG1
import Derived.Test.YtoibmjmajbkbcaaSG7
import Derived.ProofKit
import Derived.OpenShut
import Derived.Lib.SmallJoins
import Derived.Deep.Slices
import Derived.BigRegion
/- Bytes, as an argument: what the slice reads. -/
namespace Go.Proofs.Ytoibmjmajbkbcaa
open Go.ChangeShapes Go.WideShapes Go.ChangeAt Go.RowKit Go.Joins

theorem cell_block {w : World} {a : Addr} {v : Value} (h : w.cell? a = some v) : a.block < w.heap.size ∧ a.spot = none := by
  unfold World.cell? at h
  rcases Nat.lt_or_ge a.block w.heap.size with hb | hb
  · refine ⟨hb, ?_⟩
    split at h
    · split at h
      · cases h
      · rename_i hs; cases hsp : a.spot with
        | none => rfl
        | some s => rw [hsp] at hs; simp at hs
    · cases h
  · rw [Array.getElem?_eq_none hb] at h; cases h
set_option maxRecDepth 100000 in
theorem openB {H : Type} {enc : TypeId × Value → H} {W : World} {r : Reach} {b0 base : Nat} {spare : Nat → Bool} {held : Bool} {v : Value} {d : DataW H} {p : List MemPlace}
    (hv : Value.okWide Try.prog W r b0 29 v) (h : DataW.Trod enc Try.prog W base spare held 29 v d p) :
    ∃ l : List UInt8, Reads W v l := by
  obtain ⟨a, len, cap, rfl⟩ := okWide_slice Try.underlying29 hv
  obtain ⟨fuel, hf⟩ := h
  rcases open_ints Try.underlying29 Try.underlying5 (by kernel_rfl) hf with ⟨hcs, _⟩ | ⟨x, l, c, zs, hcs, _, hl, hm, hz, _, hcell, hwz⟩
  · simp [Value.cells] at hcs
    obtain ⟨rfl, rfl, rfl⟩ := hcs
    exact ⟨[], .inl ⟨rfl, _, _, rfl, fun _ => rfl⟩⟩
  · simp [Value.cells] at hcs
    obtain ⟨rfl, rfl, rfl⟩ := hcs
    have hzl : len ≤ zs.length := by rw [hz]; split <;> omega
    rcases Nat.eq_zero_or_pos len with h0 | h0
    · subst h0; exact ⟨[], .inl ⟨rfl, _, _, rfl, fun h => by cases h⟩⟩
    · refine ⟨(zs.take len).map fun z => UInt8.ofNat z.toNat, .inr ?_⟩
      have hlen : ((zs.take len).map fun z => UInt8.ofNat z.toNat).length = len := by simp; omega
      have c0 := hcell 0 (by omega)
      have e0 : x.add 0 = x := by simp [Addr.add]
      rw [e0] at c0
      obtain ⟨hb, hs⟩ := cell_block c0
      obtain ⟨b, off, spot⟩ := x
      simp only at hb hs
      subst hs
      refine ⟨b, off, cap, by rw [hlen], by omega, by omega, hm, hb, fun j hj => ?_⟩
      have hj' : j < len := by omega
      have cj := hcell j (by omega)
      have ea : (⟨b, off, none⟩ : Addr).add j = ⟨b, off + j, none⟩ := by simp [Addr.add]
      rw [ea] at cj
      rw [cj]
      have hzj : j < zs.length := by omega
      have hg : zs.getD j 0 = zs[j] := by simp [List.getD, hzj]
      have hw := bounds_u8 (hwz zs[j] (List.getElem_mem hzj))
      rw [hg]
      have e1 : ((zs.take len).map fun z => UInt8.ofNat z.toNat)[j] = UInt8.ofNat (zs[j]).toNat := by simp
      rw [e1]
      unfold bc
      have e2 : (UInt8.ofNat (zs[j]).toNat).toNat = (zs[j]).toNat := by simp [UInt8.toNat_ofNat']; omega
      rw [e2]
      congr 2
      omega
end Go.Proofs.Ytoibmjmajbkbcaa

/- Entries, as arguments. -/
namespace Go.Proofs.Ytoibmjmajbkbcaa
open Go.ChangeShapes Go.WideShapes Go.ChangeAt Go.RowKit Go.Joins

theorem cellsA : Try.prog.cellsOf 34 = 6 := by kernel_rfl
theorem cellsWd : Try.prog.cellsOf 32 = 2 := by kernel_rfl
theorem cells64 : Try.prog.cellsOf 2 = 1 := by kernel_rfl
theorem cellsU64 : Try.prog.cellsOf 30 = 1 := by kernel_rfl
theorem cellsBool : Try.prog.cellsOf 4 = 1 := by kernel_rfl
theorem array6 {α : Type} {cs : Array α} (h : cs.size = 6) : ∃ c0 c1 c2 c3 c4 c5, cs = #[c0, c1, c2, c3, c4, c5] := by
  obtain ⟨l⟩ := cs
  match l, h with
  | [c0, c1, c2, c3, c4, c5], _ => exact ⟨c0, c1, c2, c3, c4, c5, rfl⟩
theorem some_of_len {α : Type} {xs : List α} {n i : Nat} (h : xs.length = n) (hi : i < n) : ∃ y, xs[i]? = some y := ⟨xs[i], by rw [List.getElem?_eq_getElem (by omega)]⟩

/-- The facts on what is known that come with its kind. -/
structure AgOk (a : Ag) : Prop where
  c1 : 0 ≤ a.c
  c2 : a.c < 18446744073709551616
  n1 : -9223372036854775808 ≤ a.mn
  n2 : a.mn ≤ 9223372036854775807
  x1 : -9223372036854775808 ≤ a.mx
  x2 : a.mx ≤ 9223372036854775807
  s1 : -170141183460469231731687303715884105728 ≤ a.s
  s2 : a.s < 170141183460469231731687303715884105728

set_option maxRecDepth 100000 in
theorem openA' {H : Type} {enc : TypeId × Value → H} {W : World} {base : Nat} {spare : Nat → Bool} {held : Bool} {c0 c1 c2 c3 c4 c5 : Value} {x : DataW H × List MemPlace} {fuel : Nat}
    (hf : DataW.trod enc Try.prog W base spare held fuel 34 [c0, c1, c2, c3, c4, c5] = some x) :
    ∃ a : Ag, [c0, c1, c2, c3, c4, c5] = [.int .u64 a.c, .bool a.o, .int .i64 (hi a.s), .int .u64 (lo a.s), .int .i64 a.mn, .int .i64 a.mx] ∧ AgOk a := by
  obtain ⟨xs, n, _, _, _, hlen, hfs⟩ := DataW.trod_struct Try.underlying34 hf
  obtain ⟨y0, g0⟩ := some_of_len (i := 0) hlen (by decide)
  obtain ⟨y1, g1⟩ := some_of_len (i := 1) hlen (by decide)
  obtain ⟨y2, g2⟩ := some_of_len (i := 2) hlen (by decide)
  obtain ⟨y3, g3⟩ := some_of_len (i := 3) hlen (by decide)
  obtain ⟨y4, g4⟩ := some_of_len (i := 4) hlen (by decide)
  have e0 := (hfs 0 _ rfl).trans g0
  have e1 := (hfs 1 _ rfl).trans g1
  have e2 := (hfs 2 _ rfl).trans g2
  have e3 := (hfs 3 _ rfl).trans g3
  have e4 := (hfs 4 _ rfl).trans g4
  simp [cellsU64] at e0
  simp [cellsBool] at e1
  simp [cellsWd] at e2
  simp [cells64] at e3
  simp [cells64] at e4
  obtain ⟨a0, q0, _, w0⟩ := DataW.trod_int Try.underlying30 e0
  obtain ⟨a1, q1, _⟩ := DataW.trod_bool Try.underlying4 e1
  obtain ⟨a3, q3, _, w3⟩ := DataW.trod_int Try.underlying2 e3
  obtain ⟨a4, q4, _, w4⟩ := DataW.trod_int Try.underlying2 e4
  obtain ⟨z0, z1, m, _, _, f0, f1⟩ := trod_struct2 Try.underlying32 e2
  simp [cells64] at f0
  simp [cellsU64] at f1
  obtain ⟨s0, t0, _, u0⟩ := DataW.trod_int Try.underlying2 f0
  obtain ⟨s1, t1, _, u1⟩ := DataW.trod_int Try.underlying30 f1
  simp at q0 q1 q3 q4 t0 t1
  subst q0 q1 q3 q4 t0 t1
  have b0 := bounds_u64 w0
  have b3 := bounds_i64 w3
  have b4 := bounds_i64 w4
  have d0 := bounds_i64 u0
  have d1 := bounds_u64 u1
  obtain ⟨sx, x1, x2, rfl, rfl⟩ := of_halves s0 s1 (by omega) (by omega) (by omega) (by omega)
  exact ⟨⟨a0, a1, sx, a3, a4⟩, rfl, b0.1, (by have := b0.2; show a0 < _; omega), b3.1, b3.2, b4.1, b4.2, x1, x2⟩
set_option maxRecDepth 100000 in
theorem openB' {H : Type} {enc : TypeId × Value → H} {W : World} {base : Nat} {spare : Nat → Bool} {held : Bool} {cs : List Value} {x : DataW H × List MemPlace} {fuel : Nat}
    (hf : DataW.trod enc Try.prog W base spare held fuel 29 cs = some x) : ∃ v l, cs = [v] ∧ Reads W v l := by
  rcases open_ints Try.underlying29 Try.underlying5 (by kernel_rfl) hf with ⟨rfl, _⟩ | ⟨x, len, cap, zs, rfl, _, hl, hm, hz, _, hcell, hwz⟩
  · exact ⟨_, [], rfl, .inl ⟨rfl, _, _, rfl, fun _ => rfl⟩⟩
  · have hzl : len ≤ zs.length := by rw [hz]; split <;> omega
    rcases Nat.eq_zero_or_pos len with h0 | h0
    · subst h0; exact ⟨_, [], rfl, .inl ⟨rfl, _, _, rfl, fun h => by cases h⟩⟩
    · refine ⟨_, (zs.take len).map fun z => UInt8.ofNat z.toNat, rfl, .inr ?_⟩
      have hlen : ((zs.take len).map fun z => UInt8.ofNat z.toNat).length = len := by simp; omega
      have c0 := hcell 0 (by omega)
      have e0 : x.add 0 = x := by simp [Addr.add]
      rw [e0] at c0
      obtain ⟨hb, hs⟩ := cell_block c0
      obtain ⟨b, off, spot⟩ := x
      simp only at hb hs
      subst hs
      refine ⟨b, off, cap, by rw [hlen], by omega, by omega, hm, hb, fun j hj => ?_⟩
      have hj' : j < len := by omega
      have cj := hcell j (by omega)
      have ea : (⟨b, off, none⟩ : Addr).add j = ⟨b, off + j, none⟩ := by simp [Addr.add]
      rw [ea] at cj
      rw [cj]
      have hzj : j < zs.length := by omega
      have hg : zs.getD j 0 = zs[j] := by simp [List.getD, hzj]
      have hw := bounds_u8 (hwz zs[j] (List.getElem_mem hzj))
      rw [hg]
      have e1 : ((zs.take len).map fun z => UInt8.ofNat z.toNat)[j] = UInt8.ofNat (zs[j]).toNat := by simp
      rw [e1]
      unfold bc
      have e2 : (UInt8.ofNat (zs[j]).toNat).toNat = (zs[j]).toNat := by simp [UInt8.toNat_ofNat']; omega
      rw [e2]
      congr 2
      omega
theorem seven_of {α : Type} : ∀ {l : List α}, l.length = 7 → ∃ c0 c1 c2 c3 c4 c5 c6, l = [c0, c1, c2, c3, c4, c5, c6]
  | [c0, c1, c2, c3, c4, c5, c6], _ => ⟨c0, c1, c2, c3, c4, c5, c6, rfl⟩
set_option maxRecDepth 100000 in
/-- The seven cells of an entry. -/
theorem openE' {H : Type} {enc : TypeId × Value → H} {W : World} {base : Nat} {spare : Nat → Bool} {held : Bool} {c0 c1 c2 c3 c4 c5 c6 : Value} {x : DataW H × List MemPlace} {fuel : Nat}
    (hf : DataW.trod enc Try.prog W base spare held fuel 36 [c0, c1, c2, c3, c4, c5, c6] = some x) :
    ∃ (kv : Value) (k : Ks) (a : Ag), [c0, c1, c2, c3, c4, c5, c6] = c7 ⟨kv, k, a⟩ ∧ Reads W kv k ∧ AgOk a := by
  obtain ⟨z0, z1, m, _, _, f0, f1⟩ := trod_struct2 Try.underlying36 hf
  have ck : Try.prog.cellsOf 29 = 1 := by kernel_rfl
  simp [ck] at f0
  simp [cellsA] at f1
  obtain ⟨kv, k, e0, hr⟩ := openB' f0
  obtain ⟨a, e1, ha⟩ := openA' f1
  simp at e0
  subst e0
  refine ⟨c0, k, a, ?_, hr, ha⟩
  rw [e1]; rfl
/-- A slice reads these entries. -/
def EReads (w : World) (v : Value) (L : List En) : Prop :=
  ∃ a cap, v = .slice a L.length cap ∧ L.length ≤ cap ∧ cap ≤ maxLen ∧ (L = [] ∨ ∃ b off, a = some ⟨b, off, none⟩ ∧ b < w.heap.size ∧ ∀ j (hj : j < L.length), ∃ kv, (∀ i (hi : i < 7), w.cell? ⟨b, off + (7 * j + i), none⟩ = some ((c7 ⟨kv, L[j].1, L[j].2⟩)[i]'hi)) ∧ Reads w kv L[j].1 ∧ AgOk L[j].2)
theorem EReads.below {w w' : World} {v : Value} {L : List En} (h : EReads w v L) (hb : Below w.heap.size w w') : EReads w' v L := by
  obtain ⟨a, cap, rfl, h1, h2, h3⟩ := h
  refine ⟨a, cap, rfl, h1, h2, ?_⟩
  rcases h3 with h3 | ⟨b, off, h4, h5, h6⟩
  · exact .inl h3
  · refine .inr ⟨b, off, h4, Nat.lt_of_lt_of_le h5 hb.size, fun j hj => ?_⟩
    obtain ⟨kv, g1, g2, g3⟩ := h6 j hj
    exact ⟨kv, fun i hi => (hb.cell (p := ⟨b, off + (7 * j + i), none⟩) h5).trans (g1 i hi), g2.below hb, g3⟩
set_option maxRecDepth 100000 in
theorem openE {H : Type} {enc : TypeId × Value → H} {W : World} {r : Reach} {b0 base : Nat} {spare : Nat → Bool} {held : Bool} {v : Value} {d : DataW H} {p : List MemPlace}
    (hv : Value.okWide Try.prog W r b0 26 v) (h : DataW.Trod enc Try.prog W base spare held 26 v d p) : ∃ L : List En, EReads W v L := by
  obtain ⟨a, len, cap, rfl⟩ := okWide_slice Try.underlying26 hv
  obtain ⟨fuel, hf⟩ := h
  rcases Go.Deep.open_slice Try.underlying26 hf with ⟨hcs, _⟩ | ⟨x, l, c, m, n, D, Pl, hcs, _, hl, hm, hz, _, hcell⟩
  · simp [Value.cells] at hcs
    obtain ⟨rfl, rfl, rfl⟩ := hcs
    exact ⟨[], none, 0, rfl, by simp, by simp, .inl rfl⟩
  · simp [Value.cells] at hcs
    obtain ⟨rfl, rfl, rfl⟩ := hcs
    have hzl : len ≤ m := by rw [hz]; split <;> omega
    have hce : Try.prog.cellsOf 36 = 7 := by kernel_rfl
    rw [hce] at hcell
    have hall : ∀ j, ∃ (y : Ev), j < len → (∀ i (hi : i < 7), W.cell? (x.add (7 * j + i)) = some ((c7 y)[i]'hi)) ∧ Reads W y.kv y.k ∧ AgOk y.a := by
      intro j
      by_cases hj : j < len
      · obtain ⟨cs', hc1, hc2⟩ := hcell j (by omega)
        obtain ⟨_, hl7, hq⟩ := World.cells?_some hc1
        obtain ⟨c0, c1, c2, c3, c4, c5, c6, rfl⟩ := seven_of hl7
        obtain ⟨kv, k, a, e, hr, ha⟩ := openE' hc2
        refine ⟨⟨kv, k, a⟩, fun _ => ⟨fun i hi => ?_, hr, ha⟩⟩
        have h1 := hq i hi
        rw [e, List.getElem?_eq_getElem (show i < (c7 ⟨kv, k, a⟩).length from hi)] at h1
        have ea : (x.add (j * 7)).add i = x.add (7 * j + i) := by
          obtain ⟨xb, xo, xs⟩ := x
          by_cases h1 : j = 0
          · subst h1; simp [Addr.add]
          · have h2 : j * 7 ≠ 0 := by omega
            have h3 : 7 * j + i ≠ 0 := by omega
            by_cases h4 : i = 0
            · subst h4
              have h5 : j * 7 = 7 * j + 0 := by omega
              rw [h5]
              simp [Addr.add]
            · have h5 : xo + j * 7 + i = xo + (7 * j + i) := by omega
              unfold Addr.add
              rw [if_neg h2, if_neg h4, if_neg h3]
              simp only [h5]
        rw [ea] at h1
        exact h1
      · exact ⟨⟨.bool false, [], agZ⟩, fun h => absurd h hj⟩
    obtain ⟨ys, hys⟩ := Classical.axiomOfChoice hall
    rcases Nat.eq_zero_or_pos len with h0 | h0
    · subst h0
      exact ⟨[], _, cap, rfl, by simp, hm, .inl rfl⟩
    · have k0 := (hys 0 h0).1 0 (by decide)
      have e0 : x.add (7 * 0 + 0) = x := by simp [Addr.add]
      rw [e0] at k0
      obtain ⟨hb, hs⟩ := cell_block k0
      obtain ⟨b, off, spot⟩ := x
      simp only at hb hs
      subst hs
      refine ⟨(List.range len).map fun j => evE (ys j), _, cap, by simp, by simpa using hl, hm, .inr ⟨b, off, rfl, hb, fun j hj => ?_⟩⟩
      simp at hj
      obtain ⟨g1, g2, g3⟩ := hys j hj
      have ej : ((List.range len).map fun j => evE (ys j))[j]'(by simpa using hj) = evE (ys j) := by simp
      rw [ej]
      refine ⟨(ys j).kv, fun i hi => ?_, g2, g3⟩
      have ea : (⟨b, off, none⟩ : Addr).add (7 * j + i) = ⟨b, off + (7 * j + i), none⟩ := by simp [Addr.add]
      have := g1 i hi
      rw [ea] at this
      exact this
end Go.Proofs.Ytoibmjmajbkbcaa

/- The contract of layer 8's 'put'. -/
namespace Go.Proofs.Ytoibmjmajbkbcaa
open Go.RowKit

/-- Entries are put, one behind the other. -/
def putL (E : List En) (M : List En) : List En := M.foldl (fun E x => putE E x.1 x.2) E
/-- May it be put? -/
def okE (x : En) : Bool := decide (1 ≤ x.1.length ∧ x.1.length ≤ 256 ∧ x.2.c ≠ 0 ∧ rightB x.2 = true)
theorem mp_ok {h : Int} (h1 : 1 ≤ h) (h2 : h ≤ 8) (x : En) : (mpF false h x.1.length x.2 = 0) ↔ okE x = true := by
  unfold mpF okE
  rw [if_neg (by omega), if_neg (by simp)]
  by_cases e1 : x.1.length < 1 ∨ 256 < x.1.length
  · rw [if_pos e1]; simp; omega
  · rw [if_neg e1]
    by_cases e2 : x.2.c = 0 ∨ rightB x.2 = false
    · rw [if_pos e2]; simp; intro _ _ h3
      rcases e2 with e2 | e2
      · exact absurd e2 h3
      · exact e2
    · rw [if_neg e2]
      have e3 : ¬ x.2.c = 0 := fun h => e2 (.inl h)
      have e4 : rightB x.2 = true := by
        cases hr : rightB x.2
        · exact absurd (.inr hr) e2
        · rfl
      simp [e3, e4]; omega
theorem putE_len (E : List En) (k : Ks) (a : Ag) : (putE E k a).length ≤ E.length + 1 := by
  unfold putE
  split
  · split
    · rw [List.length_set]; omega
    · simp; omega
  · simp
theorem putL_len (M : List En) : ∀ E, (putL E M).length ≤ E.length + M.length := by
  induction M with
  | nil => intro E; simp [putL]
  | cons x M ih => intro E; have := ih (putE E x.1 x.2); have h2 := putE_len E x.1 x.2; simp only [putL, List.foldl_cons, List.length_cons] at *; omega
/-- The entries in the order in which 'put' takes them. -/
def rot (L : List En) (t : Nat) : List En := (List.range L.length).map fun j => L.getD ((j + t) % L.length) ([], agZ)
theorem rot_len (L : List En) (t : Nat) : (rot L t).length = L.length := by simp [rot]
theorem rot_zero (L : List En) : rot L 0 = L := by
  apply List.ext_getElem
  · exact rot_len L 0
  · intro j h1 h2; simp [rot, List.getD, Nat.mod_eq_of_lt h2, h2]
theorem rot_step' {L : List En} {t k : Nat} (hk : k < L.length) : (rot L t).take (k + 1) = (rot L t).take k ++ [L[(k + t) % L.length]'(Nat.mod_lt _ (by omega))] := by
  rw [List.take_add_one]
  congr 1
  have h1 : (k + t) % L.length < L.length := Nat.mod_lt _ (by omega)
  simp [rot, hk, List.getD, h1]
theorem rot_step {L : List En} {t k : Nat} (hk : k < L.length) : putL [] ((rot L t).take (k + 1)) = putE (putL [] ((rot L t).take k)) (L[(k + t) % L.length]'(Nat.mod_lt _ (by omega))).1 (L[(k + t) % L.length]'(Nat.mod_lt _ (by omega))).2 := by
  rw [rot_step' hk, putL, List.foldl_append]; rfl
theorem rot_all {L : List En} {t : Nat} (h : ∀ x ∈ rot L t, okE x = true) : L.all okE = true := by
  rw [List.all_eq_true]
  intro x hx
  obtain ⟨i, hi, rfl⟩ := List.getElem_of_mem hx
  apply h
  unfold rot
  rw [List.mem_map]
  refine ⟨(i + (L.length - t % L.length)) % L.length, List.mem_range.2 (Nat.mod_lt _ (by omega)), ?_⟩
  have e : ((i + (L.length - t % L.length)) % L.length + t) % L.length = i := by
    have h1 : t % L.length < L.length := Nat.mod_lt _ (by omega)
    rw [Nat.mod_add_mod, Nat.add_mod _ t, Nat.mod_add_mod, show i + (L.length - t % L.length) + t % L.length = i + L.length by omega, Nat.add_mod_right, Nat.mod_eq_of_lt hi]
  rw [e]
  simp [List.getD, hi]
theorem bad_no {L : List En} {i : Nat} (hi : i < L.length) (h : ¬ okE L[i] = true) : L.all okE = false := by
  cases e : L.all okE
  · rfl
  · exact absurd (List.all_eq_true.1 e _ (List.getElem_mem hi)) h
theorem long_no {L : List En} {i : Nat} (hi : i < L.length) (h : (1000 : Int) < (L[i].1.length : Int)) : L.all okE = false := bad_no hi (by
  unfold okE
  simp
  omega)
theorem hgt8' : ∀ n : Fin 256, 1 ≤ wrap64 (1 + wrap64 (bits .and .u8 (n.val : Int) 7)) ∧ wrap64 (1 + wrap64 (bits .and .u8 (n.val : Int) 7)) ≤ 8 := by decide +kernel
theorem hgt8 (x : UInt8) : 1 ≤ wrap64 (1 + wrap64 (bits .and .u8 (x.toNat : Int) 7)) ∧ wrap64 (1 + wrap64 (bits .and .u8 (x.toNat : Int) 7)) ≤ 8 := hgt8' ⟨x.toNat, UInt8.toNat_lt x⟩
theorem hgtv (x : UInt8) : ∃ n : Int, wrap64 (1 + wrap64 (bits .and .u8 (x.toNat : Int) 7)) = n ∧ 1 ≤ n ∧ n ≤ 8 := ⟨_, rfl, hgt8 x⟩
end Go.Proofs.Ytoibmjmajbkbcaa

/- What is known of a key, behind entries that were put. -/
namespace Go.Proofs.Ytoibmjmajbkbcaa
open Go.RowKit

/-- What is known of a key. -/
def lkE (E : List En) (k : Ks) : Option Ag := (E.find? fun x => decide (x.1 = k)).map Prod.snd
def srt (E : List En) : Prop := (keysE E).Pairwise ltK
theorem lkE_app (A B : List En) (k : Ks) : lkE (A ++ B) k = (lkE A k).or (lkE B k) := by
  unfold lkE; rw [List.find?_append]; cases A.find? fun x => decide (x.1 = k) <;> simp
theorem lkE_none {A : List En} {k : Ks} (h : ∀ x ∈ A, x.1 ≠ k) : lkE A k = none := by
  unfold lkE; rw [List.find?_eq_none.2 (fun x hx => by simp [h x hx])]; rfl
theorem lkE_cons (x : En) (A : List En) (k : Ks) : lkE (x :: A) k = if x.1 = k then some x.2 else lkE A k := by
  unfold lkE; rw [List.find?_cons]; by_cases h : x.1 = k <;> simp [h]
theorem pl_len (E : List En) (k : Ks) : plK (keysE E) k ≤ E.length := by have := plK_le (keysE E) k; simpa [keysE] using this
/-- Entries, cut where a key lies. -/
theorem cut_pl {E : List En} (hs : srt E) (k : Ks) : (∀ x ∈ E.take (plK (keysE E) k), ltK x.1 k) ∧ (∀ x ∈ E.drop (plK (keysE E) k), ¬ ltK x.1 k) := by
  have hl : (keysE E).length = E.length := by simp [keysE]
  constructor
  · intro x hx
    obtain ⟨i, hi, rfl⟩ := List.getElem_of_mem hx
    have h1 : i < plK (keysE E) k := by simp at hi; omega
    have h2 : i < E.length := by simp at hi; omega
    have := plK_lt h1 (by omega)
    simpa [keysE] using this
  · intro x hx
    obtain ⟨i, hi, rfl⟩ := List.getElem_of_mem hx
    have h2 : plK (keysE E) k + i < E.length := by simp at hi; omega
    have := plK_ge hs (Nat.le_add_right (plK (keysE E) k) i) (by omega)
    simpa [keysE] using this
theorem putE_cases {E : List En} (hs : srt E) (k : Ks) (a : Ag) :
    (∃ A B b, E = A ++ (k, b) :: B ∧ putE E k a = A ++ (k, mrg b a) :: B ∧ (∀ x ∈ A, ltK x.1 k) ∧ ∀ x ∈ B, ltK k x.1) ∨
    (∃ A B, E = A ++ B ∧ putE E k a = A ++ (k, a) :: B ∧ (∀ x ∈ A, ltK x.1 k) ∧ ∀ x ∈ B, ltK k x.1) := by
  obtain ⟨c1, c2⟩ := cut_pl hs k
  have hle := pl_len E k
  unfold putE
  by_cases h : plK (keysE E) k < E.length
  · rw [dif_pos h]
    generalize plK (keysE E) k = i at *
    have hd : E.drop i = E[i] :: E.drop (i + 1) := List.drop_eq_getElem_cons h
    have hE : E = E.take i ++ E[i] :: E.drop (i + 1) := by rw [← hd, List.take_append_drop]
    have hp : (keysE (E[i] :: E.drop (i + 1))).Pairwise ltK := by
      unfold srt at hs
      rw [hE] at hs
      unfold keysE at hs ⊢
      rw [List.map_append] at hs
      exact (List.pairwise_append.1 hs).2.1
    have hrest : ∀ x ∈ E.drop (i + 1), ltK E[i].1 x.1 := fun x hx => by
      unfold keysE at hp
      rw [List.map_cons, List.pairwise_cons] at hp
      exact hp.1 _ (List.mem_map_of_mem hx)
    by_cases hk : E[i].1 = k
    · rw [if_pos hk]
      refine .inl ⟨E.take i, E.drop (i + 1), E[i].2, ?_, ?_, c1, fun x hx => hk ▸ hrest x hx⟩
      · conv => lhs; rw [hE]
        rw [← hk]
      · rw [List.set_eq_take_append_cons_drop, if_pos h]
    · rw [if_neg hk]
      refine .inr ⟨E.take i, E.drop i, (List.take_append_drop i E).symm, rfl, c1, ?_⟩
      have h0 : ltK k E[i].1 := by
        have := c2 E[i] (by rw [hd]; exact List.mem_cons_self)
        rcases not_ltK.1 this with h1 | h1
        · exact absurd h1 hk
        · exact h1
      intro x hx
      rw [hd] at hx
      rcases List.mem_cons.1 hx with hx | hx
      · subst hx; exact h0
      · exact ltK_trans h0 (hrest x hx)
  · rw [dif_neg h]
    have he : plK (keysE E) k = E.length := by omega
    rw [he, List.take_length] at c1
    exact .inr ⟨E, [], by simp, rfl, c1, fun x hx => by cases hx⟩
theorem putE_srt {E : List En} (hs : srt E) (k : Ks) (a : Ag) : srt (putE E k a) := by
  rcases putE_cases hs k a with ⟨A, B, b, h1, h2, hA, hB⟩ | ⟨A, B, h1, h2, hA, hB⟩
  · rw [h2]
    have e : keysE (A ++ (k, mrg b a) :: B) = keysE E := by rw [h1]; simp [keysE]
    unfold srt; rw [e]; exact hs
  · rw [h2]
    unfold srt keysE at *
    rw [h1, List.map_append] at hs
    obtain ⟨p1, p2, p3⟩ := List.pairwise_append.1 hs
    rw [List.map_append, List.map_cons]
    refine List.pairwise_append.2 ⟨p1, List.pairwise_cons.2 ⟨fun y hy => ?_, p2⟩, fun x hx y hy => ?_⟩
    · obtain ⟨z, hz, rfl⟩ := List.mem_map.1 hy; exact hB z hz
    · rcases List.mem_cons.1 hy with hy | hy
      · subst hy; obtain ⟨z, hz, rfl⟩ := List.mem_map.1 hx; exact hA z hz
      · exact p3 x hx y hy
theorem putE_lk {E : List En} (hs : srt E) (k : Ks) (a : Ag) (k' : Ks) : lkE (putE E k a) k' = if k = k' then some (match lkE E k with | none => a | some b => mrg b a) else lkE E k' := by
  rcases putE_cases hs k a with ⟨A, B, b, h1, h2, hA, hB⟩ | ⟨A, B, h1, h2, hA, hB⟩
  · have n1 : lkE A k = none := lkE_none fun x hx => ltK_ne (hA x hx)
    rw [h2, h1]
    by_cases hk : k = k'
    · subst hk; simp [lkE_app, lkE_cons, n1]
    · simp [lkE_app, lkE_cons, hk]
  · have n1 : lkE A k = none := lkE_none fun x hx => ltK_ne (hA x hx)
    have n2 : lkE B k = none := lkE_none fun x hx => (ltK_ne (hB x hx)).symm
    rw [h2, h1]
    by_cases hk : k = k'
    · subst hk; simp [lkE_app, lkE_cons, n1, n2]
    · simp [lkE_app, lkE_cons, hk]
/-- What comes together of a key. -/
def knE (M : List En) (k : Ks) : Ag := M.foldl (fun s x => if x.1 = k then mrg s x.2 else s) agZ
def hasE (M : List En) (k : Ks) : Bool := M.any fun x => decide (x.1 = k)
theorem knE_snoc (M : List En) (x : En) (k : Ks) : knE (M ++ [x]) k = if x.1 = k then mrg (knE M k) x.2 else knE M k := by simp [knE, List.foldl_append]
theorem hasE_snoc (M : List En) (x : En) (k : Ks) : hasE (M ++ [x]) k = (hasE M k || decide (x.1 = k)) := by simp [hasE, List.any_append]
theorem putL_snoc (E M : List En) (x : En) : putL E (M ++ [x]) = putE (putL E M) x.1 x.2 := by simp [putL, List.foldl_append]
theorem mrg_z (a : Ag) : mrg agZ a = a := by unfold mrg agZ; simp
theorem putL_at (n : Nat) : ∀ M : List En, M.length = n → srt (putL [] M) ∧ ∀ k, lkE (putL [] M) k = (if hasE M k = true then some (knE M k) else none) ∧ (hasE M k = false → knE M k = agZ) := by
  induction n with
  | zero => intro M hM; rw [List.length_eq_zero_iff.1 hM]; exact ⟨List.Pairwise.nil, fun k => ⟨rfl, fun _ => rfl⟩⟩
  | succ n ih =>
    intro M hM
    obtain ⟨M', x, rfl⟩ : ∃ M' x, M = M' ++ [x] := ⟨M.dropLast, M.getLast (by intro h; rw [h] at hM; simp at hM), (List.dropLast_concat_getLast _).symm⟩
    obtain ⟨i1, i2⟩ := ih M' (by simpa using hM)
    rw [putL_snoc]
    refine ⟨putE_srt i1 _ _, fun k => ?_⟩
    obtain ⟨j1, j2⟩ := i2 k
    rw [putE_lk i1, knE_snoc, hasE_snoc]
    by_cases hk : x.1 = k
    · subst hk
      rw [j1]
      cases hh : hasE M' x.1
      · rw [j2 hh]; simp [mrg_z]
      · simp
    · rw [j1]; simp [hk]; exact j2
theorem putL_srt (M : List En) : srt (putL [] M) := (putL_at _ M rfl).1
theorem putL_lk (M : List En) (k : Ks) : lkE (putL [] M) k = if hasE M k = true then some (knE M k) else none := ((putL_at _ M rfl).2 k).1
/-- What Get tells, in the entries' words. -/
theorem gtF_lk {N : List Nd} (hs : srt (ents N)) (k : Ks) : gtF N k = lkE (ents N) k := by
  obtain ⟨c1, c2⟩ := cut_pl hs k
  have hE : (ents N).length = N.length := by simp [ents]
  unfold gtF
  rw [← keys_ents]
  have n1 : lkE ((ents N).take (plK (keysE (ents N)) k)) k = none := lkE_none fun x hx => ltK_ne (c1 x hx)
  have e1 : lkE (ents N) k = lkE ((ents N).drop (plK (keysE (ents N)) k)) k := by
    conv => lhs; rw [← List.take_append_drop (plK (keysE (ents N)) k) (ents N)]
    rw [lkE_app, n1]; rfl
  rw [e1]
  by_cases h : plK (keysE (ents N)) k < N.length
  · rw [dif_pos h]
    generalize plK (keysE (ents N)) k = i at *
    have hi : i < (ents N).length := by omega
    have hd : (ents N).drop i = (ents N)[i] :: (ents N).drop (i + 1) := List.drop_eq_getElem_cons hi
    have hx : (ents N)[i] = (N[i].k, N[i].a) := by simp [ents]
    rw [hd, lkE_cons, hx]
    by_cases hk : N[i].k = k
    · simp [hk]
    · have h0 : ltK k N[i].k := by
        have := c2 (ents N)[i] (by rw [hd]; exact List.mem_cons_self)
        rw [hx] at this
        rcases not_ltK.1 this with h1 | h1
        · exact absurd h1 hk
        · exact h1
      have hp : ∀ x ∈ (ents N).drop (i + 1), ltK N[i].k x.1 := by
        have h3 : (keysE ((ents N).drop i)).Pairwise ltK := by
          unfold srt keysE at hs
          unfold keysE
          exact List.Pairwise.sublist ((List.drop_sublist i _).map _) hs
        rw [hd, hx] at h3
        unfold keysE at h3
        rw [List.map_cons, List.pairwise_cons] at h3
        exact fun x hx => h3.1 _ (List.mem_map_of_mem hx)
      simp only [hk, if_false]
      exact (lkE_none fun x hx => (ltK_ne (ltK_trans h0 (hp x hx))).symm).symm
  · rw [dif_neg h, List.drop_eq_nil_of_le (by omega)]; rfl
end Go.Proofs.Ytoibmjmajbkbcaa
