/- OB CP0 ME1 S1 MG2, joined. -/
import Derived.Test.YthicmbjiblbcmaaGreatTQ7
import Derived.ProofKit
import Derived.OpenShut
import Derived.Lib.SmallJoins
import Derived.Laws.CopyOwn
import Derived.Laws.OwnMore
import Derived.Deep.Slices
import Derived.Lib.Bytealg
import Derived.Laws.Externs
import Derived.BigQuiet
import Derived.BigRegion
import Derived.Deep.RegionHeld3
import Derived.Deep.QuietTactic
/- Bytes, as an argument: what the slice reads. -/
namespace Go.Proofs.YthicmbjiblbcmaaGreat
open Go.ChangeShapes Go.WideShapes Go.ChangeAt Go.RowKit Go.Joins

theorem cell_block {w : World} {a : Addr} {v : Value} (h : w.cell? a = some v) : a.block < w.heap.size ∧ a.spot = none := by
  unfold World.cell? at h
  rcases Nat.lt_or_ge a.block w.heap.size with hb | hb
  · refine ⟨hb, ?_⟩
    split at h
    · split at h
      · cases h
      · rename_i hs; cases hsp : a.spot with
        | none => rfl
        | some s => rw [hsp] at hs; simp at hs
    · cases h
  · rw [Array.getElem?_eq_none hb] at h; cases h
end Go.Proofs.YthicmbjiblbcmaaGreat

/- Bytes that are copied into bytes of one's own; bytes just made. -/
namespace Go.Proofs.YthicmbjiblbcmaaGreat
open Go.RowKit

theorem own_zeros {w2 : World} {base g n cap : Nat} (h : w2.ownsRow base 5 1 (.slice (some ⟨g, 0, none⟩) n cap) n (madeCells (Value.int .u8 0).cells n).toList) : Own w2 base (.slice (some ⟨g, 0, none⟩) n cap) (List.replicate n 0) := by
  have e0 : (Value.int .u8 0).cells = #[.int .u8 0] := rfl
  rw [e0, toList_madeCells_one] at h
  unfold Own; simpa [bc] using h
end Go.Proofs.YthicmbjiblbcmaaGreat

/- Entries in memory: those that a slice reads, and those of one's own; rows of them, as arguments. -/
namespace Go.Proofs.YthicmbjiblbcmaaGreat
open Go.ChangeShapes Go.WideShapes Go.ChangeAt Go.RowKit Go.Joins

def env (kv : Value) (a : Ag) : Value := .agg #[kv, .int .u64 a.c, .bool a.o, .int .i64 (hi a.s), .int .u64 (lo a.s), .int .i64 a.mn, .int .i64 a.mx]
theorem cell_row {w : World} {b : Nat} {cs : Array Value} {T : TypeId} (h : w.heap[b]? = some (.cells cs T)) (i : Nat) (hi : i < cs.size) : w.cell? ⟨b, i, none⟩ = some cs[i] ∧ w.frozen? ⟨b, i, none⟩ = false := by
  refine ⟨by simp [World.cell?, h, hi], by simp [World.frozen?, h]⟩
/-- An entry in memory: its key's slice, its key, what is known. -/
structure Ev where
  kv : Value
  k : Ks
  a : Ag
def c7 (x : Ev) : List Value := [x.kv, .int .u64 x.a.c, .bool x.a.o, .int .i64 (hi x.a.s), .int .u64 (lo x.a.s), .int .i64 x.a.mn, .int .i64 x.a.mx]
def evE (x : Ev) : En := (x.k, x.a)
/-- A slice of entries of one's own. -/
def EOwn (W : World) (base : Nat) (v : Value) (xs : List Ev) : Prop := W.ownsRow base 56 7 v xs.length (xs.flatMap c7) ∧ ∀ x ∈ xs, Own W base x.kv x.k
theorem c7_len (x : Ev) : (c7 x).length = 7 := rfl
theorem flat7 : ∀ (xs : List Ev) (j i : Nat) (hj : j < xs.length), i < 7 → (xs.flatMap c7)[7 * j + i]? = (c7 xs[j])[i]?
  | [], j, i, hj, _ => by simp at hj
  | x :: xs, 0, i, _, hi => by
    rw [List.flatMap_cons, List.getElem?_append_left (by rw [c7_len]; omega)]; simp
  | x :: xs, j + 1, i, hj, hi => by
    rw [List.flatMap_cons, List.getElem?_append_right (by rw [c7_len]; omega), c7_len, show 7 * (j + 1) + i - 7 = 7 * j + i by omega]
    exact flat7 xs j i (by simpa using hj) hi
/-- What a slice of entries holds. -/
theorem EOwn.at {w : World} {base : Nat} {v : Value} {xs : List Ev} (h : EOwn w base v xs) : ∃ a cap, v = .slice a xs.length cap ∧ xs.length ≤ cap ∧ cap ≤ maxLen ∧ (0 < xs.length → ∃ g, a = some ⟨g, 0, none⟩ ∧ base ≤ g ∧ g < w.heap.size ∧ ∀ j (hj : j < xs.length) (i : Nat) (hi : i < 7), w.cell? ⟨g, 7 * j + i, none⟩ = some ((c7 xs[j])[i]'hi) ∧ w.frozen? ⟨g, 7 * j + i, none⟩ = false) := by
  have hlt := World.ownsRow.lt h.1
  rcases h.1.2 with ⟨h1, h2⟩ | ⟨g, cap, cur, hv, hg, hw, hc, hm, _⟩
  · exact ⟨none, 0, by rw [h1, h2], by omega, by simp, fun h0 => by omega⟩
  · have hr := h.1
    rw [hv] at hr
    refine ⟨_, cap, hv, hc, hm, fun _ => ⟨g, rfl, hg, (hlt g (by rw [hv]; rfl)).2, fun j hj i hi => ⟨?_, World.ownsRow.frozenAt hr _⟩⟩⟩
    rw [World.ownsRow.cellAt hr _ (by omega), flat7 xs j i hj hi, List.getElem?_eq_getElem hi]
theorem cellsA : Tryz.prog.cellsOf 54 = 6 := by kernel_rfl
theorem cellsWd : Tryz.prog.cellsOf 52 = 2 := by kernel_rfl
theorem cells64 : Tryz.prog.cellsOf 2 = 1 := by kernel_rfl
theorem cellsU64 : Tryz.prog.cellsOf 50 = 1 := by kernel_rfl
theorem cellsBool : Tryz.prog.cellsOf 4 = 1 := by kernel_rfl
theorem some_of_len {α : Type} {xs : List α} {n i : Nat} (h : xs.length = n) (hi : i < n) : ∃ y, xs[i]? = some y := ⟨xs[i], by rw [List.getElem?_eq_getElem (by omega)]⟩

/-- The facts on what is known that come with its kind. -/
structure AgOk (a : Ag) : Prop where
  c1 : 0 ≤ a.c
  c2 : a.c < 18446744073709551616
  n1 : -9223372036854775808 ≤ a.mn
  n2 : a.mn ≤ 9223372036854775807
  x1 : -9223372036854775808 ≤ a.mx
  x2 : a.mx ≤ 9223372036854775807
  s1 : -170141183460469231731687303715884105728 ≤ a.s
  s2 : a.s < 170141183460469231731687303715884105728

set_option maxRecDepth 100000 in
theorem openA' {H : Type} {enc : TypeId × Value → H} {W : World} {base : Nat} {spare : Nat → Bool} {held : Bool} {c0 c1 c2 c3 c4 c5 : Value} {x : DataW H × List MemPlace} {fuel : Nat}
    (hf : DataW.trod enc Tryz.prog W base spare held fuel 54 [c0, c1, c2, c3, c4, c5] = some x) :
    ∃ a : Ag, [c0, c1, c2, c3, c4, c5] = [.int .u64 a.c, .bool a.o, .int .i64 (hi a.s), .int .u64 (lo a.s), .int .i64 a.mn, .int .i64 a.mx] ∧ AgOk a := by
  obtain ⟨xs, n, _, _, _, hlen, hfs⟩ := DataW.trod_struct Tryz.underlying54 hf
  obtain ⟨y0, g0⟩ := some_of_len (i := 0) hlen (by decide)
  obtain ⟨y1, g1⟩ := some_of_len (i := 1) hlen (by decide)
  obtain ⟨y2, g2⟩ := some_of_len (i := 2) hlen (by decide)
  obtain ⟨y3, g3⟩ := some_of_len (i := 3) hlen (by decide)
  obtain ⟨y4, g4⟩ := some_of_len (i := 4) hlen (by decide)
  have e0 := (hfs 0 _ rfl).trans g0
  have e1 := (hfs 1 _ rfl).trans g1
  have e2 := (hfs 2 _ rfl).trans g2
  have e3 := (hfs 3 _ rfl).trans g3
  have e4 := (hfs 4 _ rfl).trans g4
  simp [cellsU64] at e0
  simp [cellsBool] at e1
  simp [cellsWd] at e2
  simp [cells64] at e3
  simp [cells64] at e4
  obtain ⟨a0, q0, _, w0⟩ := DataW.trod_int Tryz.underlying50 e0
  obtain ⟨a1, q1, _⟩ := DataW.trod_bool Tryz.underlying4 e1
  obtain ⟨a3, q3, _, w3⟩ := DataW.trod_int Tryz.underlying2 e3
  obtain ⟨a4, q4, _, w4⟩ := DataW.trod_int Tryz.underlying2 e4
  obtain ⟨z0, z1, m, _, _, f0, f1⟩ := trod_struct2 Tryz.underlying52 e2
  simp [cells64] at f0
  simp [cellsU64] at f1
  obtain ⟨s0, t0, _, u0⟩ := DataW.trod_int Tryz.underlying2 f0
  obtain ⟨s1, t1, _, u1⟩ := DataW.trod_int Tryz.underlying50 f1
  simp at q0 q1 q3 q4 t0 t1
  subst q0 q1 q3 q4 t0 t1
  have b0 := bounds_u64 w0
  have b3 := bounds_i64 w3
  have b4 := bounds_i64 w4
  have d0 := bounds_i64 u0
  have d1 := bounds_u64 u1
  obtain ⟨sx, x1, x2, rfl, rfl⟩ := of_halves s0 s1 (by omega) (by omega) (by omega) (by omega)
  exact ⟨⟨a0, a1, sx, a3, a4⟩, rfl, b0.1, (by have := b0.2; show a0 < _; omega), b3.1, b3.2, b4.1, b4.2, x1, x2⟩
set_option maxRecDepth 100000 in
theorem openB' {H : Type} {enc : TypeId × Value → H} {W : World} {base : Nat} {spare : Nat → Bool} {held : Bool} {cs : List Value} {x : DataW H × List MemPlace} {fuel : Nat}
    (hf : DataW.trod enc Tryz.prog W base spare held fuel 49 cs = some x) : ∃ v l, cs = [v] ∧ Reads W v l := by
  rcases open_ints Tryz.underlying49 Tryz.underlying5 (by kernel_rfl) hf with ⟨rfl, _⟩ | ⟨x, len, cap, zs, rfl, _, hl, hm, hz, _, hcell, hwz⟩
  · exact ⟨_, [], rfl, .inl ⟨rfl, _, _, rfl, fun _ => rfl⟩⟩
  · have hzl : len ≤ zs.length := by rw [hz]; split <;> omega
    rcases Nat.eq_zero_or_pos len with h0 | h0
    · subst h0; exact ⟨_, [], rfl, .inl ⟨rfl, _, _, rfl, fun h => by cases h⟩⟩
    · refine ⟨_, (zs.take len).map fun z => UInt8.ofNat z.toNat, rfl, .inr ?_⟩
      have hlen : ((zs.take len).map fun z => UInt8.ofNat z.toNat).length = len := by simp; omega
      have c0 := hcell 0 (by omega)
      have e0 : x.add 0 = x := by simp [Addr.add]
      rw [e0] at c0
      obtain ⟨hb, hs⟩ := cell_block c0
      obtain ⟨b, off, spot⟩ := x
      simp only at hb hs
      subst hs
      refine ⟨b, off, cap, by rw [hlen], by omega, by omega, hm, hb, fun j hj => ?_⟩
      have hj' : j < len := by omega
      have cj := hcell j (by omega)
      have ea : (⟨b, off, none⟩ : Addr).add j = ⟨b, off + j, none⟩ := by simp [Addr.add]
      rw [ea] at cj
      rw [cj]
      have hzj : j < zs.length := by omega
      have hg : zs.getD j 0 = zs[j] := by simp [List.getD, hzj]
      have hw := bounds_u8 (hwz zs[j] (List.getElem_mem hzj))
      rw [hg]
      have e1 : ((zs.take len).map fun z => UInt8.ofNat z.toNat)[j] = UInt8.ofNat (zs[j]).toNat := by simp
      rw [e1]
      unfold bc
      have e2 : (UInt8.ofNat (zs[j]).toNat).toNat = (zs[j]).toNat := by simp [UInt8.toNat_ofNat']; omega
      rw [e2]
      congr 2
      omega
theorem seven_of {α : Type} : ∀ {l : List α}, l.length = 7 → ∃ c0 c1 c2 c3 c4 c5 c6, l = [c0, c1, c2, c3, c4, c5, c6]
  | [c0, c1, c2, c3, c4, c5, c6], _ => ⟨c0, c1, c2, c3, c4, c5, c6, rfl⟩
set_option maxRecDepth 100000 in
/-- The seven cells of an entry. -/
theorem openE' {H : Type} {enc : TypeId × Value → H} {W : World} {base : Nat} {spare : Nat → Bool} {held : Bool} {c0 c1 c2 c3 c4 c5 c6 : Value} {x : DataW H × List MemPlace} {fuel : Nat}
    (hf : DataW.trod enc Tryz.prog W base spare held fuel 56 [c0, c1, c2, c3, c4, c5, c6] = some x) :
    ∃ (kv : Value) (k : Ks) (a : Ag), [c0, c1, c2, c3, c4, c5, c6] = c7 ⟨kv, k, a⟩ ∧ Reads W kv k ∧ AgOk a := by
  obtain ⟨z0, z1, m, _, _, f0, f1⟩ := trod_struct2 Tryz.underlying56 hf
  have ck : Tryz.prog.cellsOf 49 = 1 := by kernel_rfl
  simp [ck] at f0
  simp [cellsA] at f1
  obtain ⟨kv, k, e0, hr⟩ := openB' f0
  obtain ⟨a, e1, ha⟩ := openA' f1
  simp at e0
  subst e0
  refine ⟨c0, k, a, ?_, hr, ha⟩
  rw [e1]; rfl
def CnOk (a : Ag) : Prop := 0 ≤ a.c ∧ a.c < 18446744073709551616
theorem AgOk.cn {a : Ag} (h : AgOk a) : CnOk a := ⟨h.c1, h.c2⟩
/-- A slice reads these entries. -/
def EReads (w : World) (v : Value) (L : List En) : Prop :=
  ∃ a cap, v = .slice a L.length cap ∧ L.length ≤ cap ∧ cap ≤ maxLen ∧ (L = [] ∨ ∃ b off, a = some ⟨b, off, none⟩ ∧ b < w.heap.size ∧ ∀ j (hj : j < L.length), ∃ kv, (∀ i (hi : i < 7), w.cell? ⟨b, off + (7 * j + i), none⟩ = some ((c7 ⟨kv, L[j].1, L[j].2⟩)[i]'hi)) ∧ Reads w kv L[j].1 ∧ CnOk L[j].2)
theorem EReads.below {w w' : World} {v : Value} {L : List En} (h : EReads w v L) (hb : Below w.heap.size w w') : EReads w' v L := by
  obtain ⟨a, cap, rfl, h1, h2, h3⟩ := h
  refine ⟨a, cap, rfl, h1, h2, ?_⟩
  rcases h3 with h3 | ⟨b, off, h4, h5, h6⟩
  · exact .inl h3
  · refine .inr ⟨b, off, h4, Nat.lt_of_lt_of_le h5 hb.size, fun j hj => ?_⟩
    obtain ⟨kv, g1, g2, g3⟩ := h6 j hj
    exact ⟨kv, fun i hi => (hb.cell (p := ⟨b, off + (7 * j + i), none⟩) h5).trans (g1 i hi), g2.below hb, g3⟩
set_option maxRecDepth 100000 in
theorem openEs {H : Type} {enc : TypeId × Value → H} {W : World} {base : Nat} {spare : Nat → Bool} {held : Bool} {cs : List Value} {x : DataW H × List MemPlace} {fuel : Nat}
    (hf : DataW.trod enc Tryz.prog W base spare held fuel 31 cs = some x) : ∃ v L, cs = [v] ∧ EReads W v L := by
  rcases Go.Deep.open_slice Tryz.underlying31 hf with ⟨hcs, _⟩ | ⟨x, len, cap, m, n, D, Pl, hcs, _, hl, hm, hz, _, hcell⟩
  · subst hcs
    exact ⟨_, [], rfl, none, 0, rfl, by simp, by simp, .inl rfl⟩
  · subst hcs
    have hzl : len ≤ m := by rw [hz]; split <;> omega
    have hce : Tryz.prog.cellsOf 56 = 7 := by kernel_rfl
    rw [hce] at hcell
    have hall : ∀ j, ∃ (y : Ev), j < len → (∀ i (hi : i < 7), W.cell? (x.add (7 * j + i)) = some ((c7 y)[i]'hi)) ∧ Reads W y.kv y.k ∧ AgOk y.a := by
      intro j
      by_cases hj : j < len
      · obtain ⟨cs', hc1, hc2⟩ := hcell j (by omega)
        obtain ⟨_, hl7, hq⟩ := World.cells?_some hc1
        obtain ⟨c0, c1, c2, c3, c4, c5, c6, rfl⟩ := seven_of hl7
        obtain ⟨kv, k, a, e, hr, ha⟩ := openE' hc2
        refine ⟨⟨kv, k, a⟩, fun _ => ⟨fun i hi => ?_, hr, ha⟩⟩
        have h1 := hq i hi
        rw [e, List.getElem?_eq_getElem (show i < (c7 ⟨kv, k, a⟩).length from hi)] at h1
        have ea : (x.add (j * 7)).add i = x.add (7 * j + i) := by
          obtain ⟨xb, xo, xs⟩ := x
          by_cases h1 : j = 0
          · subst h1; simp [Addr.add]
          · have h2 : j * 7 ≠ 0 := by omega
            have h3 : 7 * j + i ≠ 0 := by omega
            by_cases h4 : i = 0
            · subst h4
              have h5 : j * 7 = 7 * j + 0 := by omega
              rw [h5]
              simp [Addr.add]
            · have h5 : xo + j * 7 + i = xo + (7 * j + i) := by omega
              unfold Addr.add
              rw [if_neg h2, if_neg h4, if_neg h3]
              simp only [h5]
        rw [ea] at h1
        exact h1
      · exact ⟨⟨.bool false, [], agZ⟩, fun h => absurd h hj⟩
    obtain ⟨ys, hys⟩ := Classical.axiomOfChoice hall
    rcases Nat.eq_zero_or_pos len with h0 | h0
    · subst h0
      exact ⟨_, [], rfl, _, cap, rfl, by simp, hm, .inl rfl⟩
    · have k0 := (hys 0 h0).1 0 (by decide)
      have e0 : x.add (7 * 0 + 0) = x := by simp [Addr.add]
      rw [e0] at k0
      obtain ⟨hb, hs⟩ := cell_block k0
      obtain ⟨b, off, spot⟩ := x
      simp only at hb hs
      subst hs
      refine ⟨_, (List.range len).map fun j => evE (ys j), rfl, _, cap, by simp, by simpa using hl, hm, .inr ⟨b, off, rfl, hb, fun j hj => ?_⟩⟩
      simp at hj
      obtain ⟨g1, g2, g3⟩ := hys j hj
      have ej : ((List.range len).map fun j => evE (ys j))[j]'(by simpa using hj) = evE (ys j) := by simp
      rw [ej]
      refine ⟨(ys j).kv, fun i hi => ?_, g2, g3.cn⟩
      have ea : (⟨b, off, none⟩ : Addr).add (7 * j + i) = ⟨b, off + (7 * j + i), none⟩ := by simp [Addr.add]
      have := g1 i hi
      rw [ea] at this
      exact this
theorem EReads.form {w : World} {v : Value} {L : List En} (h : EReads w v L) : ∃ a cap, v = .slice a L.length cap ∧ L.length ≤ cap ∧ cap ≤ maxLen := by
  obtain ⟨a, cap, rfl, h1, h2, _⟩ := h
  exact ⟨a, cap, rfl, h1, h2⟩
theorem EReads.ok {w : World} {v : Value} {L : List En} (h : EReads w v L) : ∀ x ∈ L, CnOk x.2 := by
  obtain ⟨a, cap, rfl, h1, h2, h3⟩ := h
  intro x hx
  rcases h3 with rfl | ⟨b, off, _, _, h6⟩
  · cases hx
  · obtain ⟨j, hj, rfl⟩ := List.getElem_of_mem hx
    obtain ⟨_, _, _, h⟩ := h6 j hj
    exact h
theorem EOwn.reads {w : World} {base : Nat} {v : Value} {xs : List Ev} (h : EOwn w base v xs) (hk : ∀ x ∈ xs, CnOk x.a) : EReads w v (xs.map evE) := by
  obtain ⟨a, cap, rfl, h1, h2, h3⟩ := h.at
  refine ⟨a, cap, by simp, by simpa using h1, h2, ?_⟩
  rcases Nat.eq_zero_or_pos xs.length with h0 | h0
  · exact .inl (by rw [List.length_eq_zero_iff.1 h0]; rfl)
  · obtain ⟨g, rfl, _, h5, h6⟩ := h3 h0
    refine .inr ⟨g, 0, rfl, h5, fun j hj => ?_⟩
    simp at hj
    have e : (xs.map evE)[j]'(by simpa using hj) = evE xs[j] := by simp
    rw [e]
    refine ⟨xs[j].kv, fun i hi => ?_, (h.2 _ (List.getElem_mem hj)).reads, hk _ (List.getElem_mem hj)⟩
    rw [show 0 + (7 * j + i) = 7 * j + i by omega]
    exact (h6 j hj i hi).1
/-- A slice reads these rows. -/
def RReads (w : World) (v : Value) (rs : List (List En)) : Prop :=
  ∃ a cap, v = .slice a rs.length cap ∧ rs.length ≤ cap ∧ cap ≤ maxLen ∧ (rs = [] ∨ ∃ b off, a = some ⟨b, off, none⟩ ∧ b < w.heap.size ∧ ∀ j (hj : j < rs.length), ∃ ev, w.cell? ⟨b, off + j, none⟩ = some ev ∧ EReads w ev rs[j])
theorem RReads.below {w w' : World} {v : Value} {rs : List (List En)} (h : RReads w v rs) (hb : Below w.heap.size w w') : RReads w' v rs := by
  obtain ⟨a, cap, rfl, h1, h2, h3⟩ := h
  refine ⟨a, cap, rfl, h1, h2, ?_⟩
  rcases h3 with h3 | ⟨b, off, h4, h5, h6⟩
  · exact .inl h3
  · refine .inr ⟨b, off, h4, Nat.lt_of_lt_of_le h5 hb.size, fun j hj => ?_⟩
    obtain ⟨ev, g1, g2⟩ := h6 j hj
    exact ⟨ev, (hb.cell (p := ⟨b, off + j, none⟩) h5).trans g1, g2.below hb⟩
set_option maxRecDepth 100000 in
theorem openRR {H : Type} {enc : TypeId × Value → H} {W : World} {r : Reach} {b0 base : Nat} {spare : Nat → Bool} {held : Bool} {v : Value} {d : DataW H} {p : List MemPlace}
    (hv : Value.okWide Tryz.prog W r b0 25 v) (h : DataW.Trod enc Tryz.prog W base spare held 25 v d p) : ∃ rs : List (List En), RReads W v rs := by
  obtain ⟨a, len, cap, rfl⟩ := okWide_slice Tryz.underlying25 hv
  obtain ⟨fuel, hf⟩ := h
  rcases Go.Deep.open_slice Tryz.underlying25 hf with ⟨hcs, _⟩ | ⟨x, l, c, m, n, D, Pl, hcs, _, hl, hm, hz, _, hcell⟩
  · simp [Value.cells] at hcs
    obtain ⟨rfl, rfl, rfl⟩ := hcs
    exact ⟨[], none, 0, rfl, by simp, by simp, .inl rfl⟩
  · simp [Value.cells] at hcs
    obtain ⟨rfl, rfl, rfl⟩ := hcs
    have hzl : len ≤ m := by rw [hz]; split <;> omega
    have hce : Tryz.prog.cellsOf 31 = 1 := by kernel_rfl
    rw [hce] at hcell
    have hall : ∀ j, ∃ (y : Value × List En), j < len → W.cell? (x.add j) = some y.1 ∧ EReads W y.1 y.2 := by
      intro j
      by_cases hj : j < len
      · obtain ⟨cs', hc1, hc2⟩ := hcell j (by omega)
        obtain ⟨_, hl1, hq⟩ := World.cells?_some hc1
        obtain ⟨ev, L, rfl, hr⟩ := openEs hc2
        have h1 := hq 0 (by decide)
        have ea : (x.add (j * 1)).add 0 = x.add j := by simp [Addr.add]
        rw [ea] at h1
        exact ⟨(ev, L), fun _ => ⟨h1, hr⟩⟩
      · exact ⟨(.bool false, []), fun h => absurd h hj⟩
    obtain ⟨ys, hys⟩ := Classical.axiomOfChoice hall
    rcases Nat.eq_zero_or_pos len with h0 | h0
    · subst h0
      exact ⟨[], _, cap, rfl, by simp, hm, .inl rfl⟩
    · have k0 := (hys 0 h0).1
      have e0 : x.add 0 = x := by simp [Addr.add]
      rw [e0] at k0
      obtain ⟨hb, hs⟩ := cell_block k0
      obtain ⟨b, off, spot⟩ := x
      simp only at hb hs
      subst hs
      refine ⟨(List.range len).map fun j => (ys j).2, _, cap, by simp, by simpa using hl, hm, .inr ⟨b, off, rfl, hb, fun j hj => ?_⟩⟩
      simp at hj
      obtain ⟨g1, g2⟩ := hys j hj
      have ej : ((List.range len).map fun j => (ys j).2)[j]'(by simpa using hj) = (ys j).2 := by simp
      rw [ej]
      have ea : (⟨b, off, none⟩ : Addr).add j = ⟨b, off + j, none⟩ := by simp [Addr.add]
      rw [ea] at g1
      exact ⟨_, g1, g2⟩
end Go.Proofs.YthicmbjiblbcmaaGreat

/- The contracts of bytes.Compare and bytes.Equal; the order of bytes. -/
namespace Go.Proofs.YthicmbjiblbcmaaGreat
open Go.RowKit

theorem run_loadBytes (w : World) : ∀ (l : List UInt8) (b off : Nat) (acc : ByteArray), (∀ j (h : j < l.length), w.cell? ⟨b, off + j, none⟩ = some (bc l[j])) →
    (Extern.Bytes.loadBytes ⟨b, off, none⟩ l.length acc).run Tryz.prog w = .ok ⟨acc.data ++ l.toArray⟩ w := by
  intro l
  induction l with
  | nil => intro b off acc _; simp [Extern.Bytes.loadBytes, Sem.run_pure]
  | cons x l ih =>
    intro b off acc h
    have h0 := h 0 (by simp)
    simp only [Nat.add_zero, List.getElem_cons_zero] at h0
    have e1 : (⟨b, off, none⟩ : Addr).add 1 = ⟨b, off + 1, none⟩ := by simp [Addr.add]
    have := ih b (off + 1) (acc.push x) (fun j hj => by
      have := h (j + 1) (by simpa using hj)
      simpa [Nat.add_assoc, Nat.add_comm 1 j] using this)
    have e2 : ((x.toNat : Int).toNat).toUInt8 = x := by simp
    unfold bc at h0
    simp only [List.length_cons, Extern.Bytes.loadBytes, Sem.run_bind, run_load, h0, Result.andThen, e1, e2, this]
    congr 1
    simp [ByteArray.push]
theorem run_bytesOf {w : World} {v : Value} {l : List UInt8} (h : Reads w v l) : (Extern.Bytes.bytesOf v).run Tryz.prog w = .ok ⟨l.toArray⟩ w := by
  rcases h with ⟨rfl, a, cap, rfl, _⟩ | ⟨b, off, cap, rfl, h2, h3, h4, h5, h6⟩
  · cases a with
    | none => simp [Extern.Bytes.bytesOf, Sem.run_pure]; rfl
    | some a => simp [Extern.Bytes.bytesOf, Extern.Bytes.loadBytes, Sem.run_pure]; rfl
  · have := run_loadBytes w l b off ByteArray.empty h6
    simp only [Extern.Bytes.bytesOf]
    rw [this]; simp
theorem run_cmp {w : World} {va vb : Value} {a b : List UInt8} (ha : Reads w va a) (hb : Reads w vb b) : (Extern.BytealgCompare.compare #[va, vb]).run Tryz.prog w = .ok (.int .i64 (Lib.compareBytes a b)) w := by
  change Sem.run Tryz.prog (do pure (goInt (Extern.BytealgCompare.cmp (← Extern.Bytes.bytesOf va) (← Extern.Bytes.bytesOf vb)))) w = _
  simp only [Sem.run_bind, run_bytesOf ha, run_bytesOf hb, Sem.run_pure, Result.andThen]
  rw [Lib.cmp_eq]
  rfl
theorem cmp_any (va vb : Value) (a b : List UInt8) (w : World) (ha : Reads w va a) (hb : Reads w vb b) :
    Calls Tryz.prog 35 #[va, vb] w fun e w' => e = .returned (.int .i64 (Lib.compareBytes a b)) ∧ w' = w := by
  have hr := run_cmp ha hb
  obtain ⟨a1, c1, rfl, _⟩ := ha.form
  obtain ⟨a2, c2, rfl, _⟩ := hb.form
  go_enter Tryz.func35, Tryz.ntmps35
  go_wp2_with (rw [run_callFunc_extern Tryz.func58 (by kernel_rfl) (by kernel_rfl) (by kernel_rfl) (e := Extern.BytealgCompare.compare) (by kernel_rfl), hr]; simp only [Result.andThen]; rw [Oper.upon_value])
  go_ret
  exact ⟨rfl, rfl⟩
theorem equal_any (va vb : Value) (a b : List UInt8) (w : World) (ha : Reads w va a) (hb : Reads w vb b) :
    Calls Tryz.prog 25 #[va, vb] w fun e w' => e = .returned (.bool (decide (a = b))) ∧ w' = w := by
  have h1 := reads_text ha
  have h2 := reads_text hb
  obtain ⟨a1, c1, rfl, _⟩ := ha.form
  obtain ⟨a2, c2, rfl, _⟩ := hb.form
  go_enter Tryz.func25, Tryz.ntmps25
  go_wp2_with fail
  go_ret
  exact ⟨congrArg (fun x => Ending.returned (Value.bool x)) (by rw [Bool.eq_iff_iff]; simp), rfl⟩
end Go.Proofs.YthicmbjiblbcmaaGreat

/- The contract of merge's order. -/
namespace Go.Proofs.YthicmbjiblbcmaaGreat
open Go.RowKit

def cmpI (a b : Int) : Int := if a < b then -1 else if b < a then 1 else 0
theorem isNaN_any (a : Int) (w : World) : Calls Tryz.prog 102 #[.int .i64 a] w fun e w' => e = .returned (.bool false) ∧ w' = w := by
  go_enter Tryz.func102, Tryz.ntmps102
  go_wp2_with fail
  go_ret
  exact ⟨by simp, rfl⟩
theorem cmpi_any (a b : Int) (w : World) : Calls Tryz.prog 96 #[.int .i64 a, .int .i64 b] w fun e w' => e = .returned (.int .i64 (cmpI a b)) ∧ w' = w := by
  go_enter Tryz.func96, Tryz.ntmps96
  go_wp2_with fail
  refine (isNaN_any _ _).mono ?_
  rintro e w1 ⟨rfl, hw1⟩
  subst w1
  go_wp2_with fail
  refine (isNaN_any _ _).mono ?_
  rintro e w1 ⟨rfl, hw1⟩
  subst w1
  by_cases h1 : a < b
  · have HZ : Hid (cmpI a b = -1) := by unfold Hid cmpI; rw [if_pos h1]
    go_wp2_with fail
    go_ret
    exact ⟨by rw [HZ.out]; rfl, rfl⟩
  · by_cases h2 : b < a
    · have HZ : Hid (cmpI a b = 1) := by unfold Hid cmpI; rw [if_neg h1, if_pos h2]
      go_wp2_with fail
      go_ret
      exact ⟨by rw [HZ.out]; rfl, rfl⟩
    · have HZ : Hid (cmpI a b = 0) := by unfold Hid cmpI; rw [if_neg h1, if_neg h2]
      go_wp2_with fail
      go_ret
      exact ⟨by rw [HZ.out]; rfl, rfl⟩
def orF (x y : Int) : Int := if x = 0 then y else x
set_option maxHeartbeats 1000000 in
theorem or_any (x y : Int) (g : Nat) (w : World) (c0 : w.cell? ⟨g, 0, none⟩ = some (.int .i64 x)) (c1 : w.cell? ⟨g, 1, none⟩ = some (.int .i64 y)) :
    Calls Tryz.prog 95 #[.slice (some ⟨g, 0, none⟩) 2 2] w fun e w' => e = .returned (.int .i64 (orF x y)) ∧ w' = w := by
  go_enter Tryz.func95, Tryz.ntmps95
  go_wp2_with fail
  go_loopw [8] (fun i wr => Hid (wr = w) ∧ ∃ k : Nat, k ≤ 2 ∧ i = .int .i64 (k : Int) ∧ (1 ≤ k → x = 0) ∧ (2 ≤ k → y = 0)) (fun i _ => 2 - (intOf i).toNat)
  case atStart => exact ⟨rfl, 0, by omega, rfl, fun h => by omega, fun h => by omega⟩
  case round =>
    obtain ⟨HW, k, hk, rfl, hx, hy⟩ := hrel
    obtain rfl := HW.out
    clear HW
    rcases Nat.lt_or_ge k 2 with hk2 | hk2
    · rcases Nat.eq_zero_or_pos k with rfl | hk0
      · clear hx hy
        by_cases hx0 : x = 0
        · have hxb : (x == 0) = true := by simp [hx0]
          have HX : Hid (x = 0) := hx0
          clear hx0
          go_wp2_with fail
          go_roundw
          case rel => exact ⟨trivial, 1, by omega, by go_num, fun _ => HX.out, fun h => by omega⟩
          case measure => simp [intOf]
        · have hxb : (x == 0) = false := by simp [hx0]
          have HZ : Hid (orF x y = x) := by unfold Hid orF; rw [if_neg hx0]
          clear hx0
          go_wp2_with fail
          go_ret
          exact ⟨by rw [HZ.out]; rfl, rfl⟩
      · obtain rfl : k = 1 := by omega
        have HX : Hid (x = 0) := hx (by omega)
        clear hx hy
        by_cases hy0 : y = 0
        · have hyb : (y == 0) = true := by simp [hy0]
          have HY : Hid (y = 0) := hy0
          clear hy0
          go_wp2_with fail
          go_roundw
          case rel => exact ⟨trivial, 2, by omega, by go_num, fun _ => HX.out, fun _ => HY.out⟩
          case measure => simp [intOf]
        · have hyb : (y == 0) = false := by simp [hy0]
          have HZ : Hid (orF x y = y) := by unfold Hid orF; rw [if_pos HX.out]
          clear hy0
          go_wp2_with fail
          go_ret
          exact ⟨by rw [HZ.out]; rfl, rfl⟩
    · obtain rfl : k = 2 := by omega
      have HX : Hid (x = 0) := hx (by omega)
      have HY : Hid (y = 0) := hy (by omega)
      have HZ : Hid (orF x y = 0) := by unfold Hid orF; rw [if_pos HX.out, HY.out]
      clear hx hy
      go_wp2_with fail
      go_ret
      exact ⟨by rw [HZ.out]; rfl, rfl⟩
/-- Which of two parts is ahead. -/
def ordF (ka : Ks) (ra : Int) (kb : Ks) (rb : Int) : Int := orF (Lib.compareBytes ka kb) (cmpI ra rb)
theorem ordF_lt {ka kb : Ks} {m n : Nat} : ordF ka m kb n < 0 ↔ ltT (ka, m) (kb, n) := by
  unfold ordF orF ltT ltK cmpI
  rcases cmp_three ka kb with h | h | h
  · rw [h]; simp
  · rw [h]
    have := cmp_zero h
    subst this
    simp only [true_and]
    by_cases h1 : m < n
    · have : (m : Int) < n := by omega
      simp [h1]
    · by_cases h2 : n < m
      · have : (n : Int) < m := by omega
        simp [h1, h2]
      · simp [h1, h2]
  · rw [h]
    simp only [show ((1 : Int) = 0) = False by simp, if_false]
    constructor
    · intro h; omega
    · rintro (h2 | ⟨rfl, _⟩)
      · omega
      · rw [cmp_refl] at h; omega
set_option maxRecDepth 100000 in
set_option maxHeartbeats 2000000 in
theorem order_any (ga oa na ca gb ob nb cb : Nat) (kva kvb : Value) (ka kb : Ks) (ra rb : Int) (hna : 0 < na) (hnb : 0 < nb) (w : World)
    (xa : w.cell? ⟨ga, oa, none⟩ = some kva) (xb : w.cell? ⟨gb, ob, none⟩ = some kvb) (hra : Reads w kva ka) (hrb : Reads w kvb kb) :
    Calls Tryz.prog 74 #[.agg #[.slice (some ⟨ga, oa, none⟩) na ca, .int .i64 ra], .agg #[.slice (some ⟨gb, ob, none⟩) nb cb, .int .i64 rb]] w fun e w' => e = .returned (.int .i64 (ordF ka ra kb rb)) ∧ Below w.heap.size w w' := by
  obtain ⟨ka1, ka2, rfl, _⟩ := hra.form
  obtain ⟨kb1, kb2, rfl, _⟩ := hrb.form
  have HRA : Hid (Reads w (.slice ka1 ka.length ka2) ka) := hra
  have HRB : Hid (Reads w (.slice kb1 kb.length kb2) kb) := hrb
  have hba := (cell_block xa).1
  have hbb := (cell_block xb).1
  simp only at hba hbb
  have HA : Hid (w.cell? ⟨ga, oa, none⟩ = some (.slice ka1 ka.length ka2)) := xa
  have HB : Hid (w.cell? ⟨gb, ob, none⟩ = some (.slice kb1 kb.length kb2)) := xb
  have HE : Hid (orF (Lib.compareBytes ka kb) (cmpI ra rb) = ordF ka ra kb rb) := rfl
  clear hra hrb xa xb
  go_enter Tryz.func74, Tryz.ntmps74
  go_wp2_with fail
  have H0 : Hid (Below w.heap.size w ((w.alloc (.cells #[.slice (some ⟨ga, oa, none⟩) na ca, .int .i64 ra] 115)).alloc (.cells #[.slice (some ⟨gb, ob, none⟩) nb cb, .int .i64 rb] 115))) := ((Below.refl _ _).alloc (Nat.le_refl _) _).alloc (by simp) _
  have y0 := (H0.out.cell (p := ⟨ga, oa, none⟩) hba).trans HA.out
  have y1 := (H0.out.cell (p := ⟨gb, ob, none⟩) hbb).trans HB.out
  refine wp_region_noPanic ?_
  refine wp_region_held_drew (S := (fun w' => w'.cell? ⟨w.heap.size, 0, none⟩ = some (.slice (some ⟨ga, oa, none⟩) na ca) ∧ w'.cell? ⟨w.heap.size, 1, none⟩ = some (.int .i64 ra) ∧ w'.cell? ⟨w.heap.size + 1, 0, none⟩ = some (.slice (some ⟨gb, ob, none⟩) nb cb) ∧ w'.cell? ⟨w.heap.size + 1, 1, none⟩ = some (.int .i64 rb) ∧ w'.cell? ⟨ga, oa, none⟩ = some (.slice ka1 ka.length ka2) ∧ w'.cell? ⟨gb, ob, none⟩ = some (.slice kb1 kb.length kb2) ∧ Below w.heap.size w w')) (by kernel_rfl) ?_ (fun hHeld => ?_)
  · exact ⟨by simp [go_sem, World.cell?_alloc_past], by simp [go_sem, World.cell?_alloc_past], by simp [go_sem], by simp [go_sem], y0, y1, H0.out.drew⟩
  clear y0 y1
  refine wpAnyH_take (i := 0) (v := .pointer (some ⟨w.heap.size, 0, none⟩)) rfl (by kernel_rfl) (by kernel_rfl) (by kernel_rfl) (fun _ _ _ h => h) (Or.inl ⟨by rfl, ?_⟩) (by assumption) ?_
  · (intro w1 hSw; (try dsimp only at hSw); go_simp)
  simp only [List.getElem_toArray, List.getElem_cons_zero, Act.put, List.setIfInBounds_toArray, List.set_cons_zero, List.set_cons_succ]
  refine wpAnyH_take (i := 1) (v := .slice (some ⟨ga, oa, none⟩) na ca) rfl (by kernel_rfl) (by kernel_rfl) (by kernel_rfl) (fun _ _ _ h => h) (Or.inl ⟨by rfl, ?_⟩) (by assumption) ?_
  · (intro w1 hSw; (try dsimp only at hSw); go_simp)
  simp only [List.getElem_toArray, List.getElem_cons_succ, List.getElem_cons_zero, Act.put, List.setIfInBounds_toArray, List.set_cons_zero, List.set_cons_succ]
  refine wpAnyH_take (i := 2) (v := .pointer (some ⟨ga, oa, none⟩)) rfl (by kernel_rfl) (by kernel_rfl) (by kernel_rfl) (fun _ _ _ h => h) (Or.inl ⟨by rfl, ?_⟩) (by assumption) ?_
  · (intro w1 hSw; (try dsimp only at hSw); go_simp)
  simp only [List.getElem_toArray, List.getElem_cons_succ, List.getElem_cons_zero, Act.put, List.setIfInBounds_toArray, List.set_cons_zero, List.set_cons_succ]
  refine wpAnyH_take (i := 3) (v := .pointer (some ⟨ga, oa, none⟩)) rfl (by kernel_rfl) (by kernel_rfl) (by kernel_rfl) (fun _ _ _ h => h) (Or.inl ⟨by rfl, ?_⟩) (by assumption) ?_
  · (intro w1 hSw; (try dsimp only at hSw); go_simp)
  simp only [List.getElem_toArray, List.getElem_cons_succ, List.getElem_cons_zero, Act.put, List.setIfInBounds_toArray, List.set_cons_zero, List.set_cons_succ]
  refine wpAnyH_take (i := 4) (v := .slice ka1 ka.length ka2) rfl (by kernel_rfl) (by kernel_rfl) (by kernel_rfl) (fun _ _ _ h => h) (Or.inl ⟨by rfl, ?_⟩) (by assumption) ?_
  · (intro w1 hSw; (try dsimp only at hSw); go_simp)
  simp only [List.getElem_toArray, List.getElem_cons_succ, List.getElem_cons_zero, Act.put, List.setIfInBounds_toArray, List.set_cons_zero, List.set_cons_succ]
  refine wpAnyH_take (i := 5) (v := .pointer (some ⟨w.heap.size + 1, 0, none⟩)) rfl (by kernel_rfl) (by kernel_rfl) (by kernel_rfl) (fun _ _ _ h => h) (Or.inl ⟨by rfl, ?_⟩) (by assumption) ?_
  · (intro w1 hSw; (try dsimp only at hSw); go_simp)
  simp only [List.getElem_toArray, List.getElem_cons_succ, List.getElem_cons_zero, Act.put, List.setIfInBounds_toArray, List.set_cons_zero, List.set_cons_succ]
  refine wpAnyH_take (i := 6) (v := .slice (some ⟨gb, ob, none⟩) nb cb) rfl (by kernel_rfl) (by kernel_rfl) (by kernel_rfl) (fun _ _ _ h => h) (Or.inl ⟨by rfl, ?_⟩) (by assumption) ?_
  · (intro w1 hSw; (try dsimp only at hSw); go_simp)
  simp only [List.getElem_toArray, List.getElem_cons_succ, List.getElem_cons_zero, Act.put, List.setIfInBounds_toArray, List.set_cons_zero, List.set_cons_succ]
  refine wpAnyH_take (i := 7) (v := .pointer (some ⟨gb, ob, none⟩)) rfl (by kernel_rfl) (by kernel_rfl) (by kernel_rfl) (fun _ _ _ h => h) (Or.inl ⟨by rfl, ?_⟩) (by assumption) ?_
  · (intro w1 hSw; (try dsimp only at hSw); go_simp)
  simp only [List.getElem_toArray, List.getElem_cons_succ, List.getElem_cons_zero, Act.put, List.setIfInBounds_toArray, List.set_cons_zero, List.set_cons_succ]
  refine wpAnyH_take (i := 8) (v := .pointer (some ⟨gb, ob, none⟩)) rfl (by kernel_rfl) (by kernel_rfl) (by kernel_rfl) (fun _ _ _ h => h) (Or.inl ⟨by rfl, ?_⟩) (by assumption) ?_
  · (intro w1 hSw; (try dsimp only at hSw); go_simp)
  simp only [List.getElem_toArray, List.getElem_cons_succ, List.getElem_cons_zero, Act.put, List.setIfInBounds_toArray, List.set_cons_zero, List.set_cons_succ]
  refine wpAnyH_take (i := 9) (v := .slice kb1 kb.length kb2) rfl (by kernel_rfl) (by kernel_rfl) (by kernel_rfl) (fun _ _ _ h => h) (Or.inl ⟨by rfl, ?_⟩) (by assumption) ?_
  · (intro w1 hSw; (try dsimp only at hSw); go_simp)
  simp only [List.getElem_toArray, List.getElem_cons_succ, List.getElem_cons_zero, Act.put, List.setIfInBounds_toArray, List.set_cons_zero, List.set_cons_succ]
  refine wpAnyH_take (i := 11) (v := .pointer (some ⟨w.heap.size, 1, none⟩)) rfl (by kernel_rfl) (by kernel_rfl) (by kernel_rfl) (fun _ _ _ h => h) (Or.inl ⟨by rfl, ?_⟩) (by assumption) ?_
  · (intro w1 hSw; (try dsimp only at hSw); go_simp)
  simp only [List.getElem_toArray, List.getElem_cons_succ, List.getElem_cons_zero, Act.put, List.setIfInBounds_toArray, List.set_cons_zero, List.set_cons_succ]
  refine wpAnyH_take (i := 12) (v := .int .i64 ra) rfl (by kernel_rfl) (by kernel_rfl) (by kernel_rfl) (fun _ _ _ h => h) (Or.inl ⟨by rfl, ?_⟩) (by assumption) ?_
  · (intro w1 hSw; (try dsimp only at hSw); go_simp)
  simp only [List.getElem_toArray, List.getElem_cons_succ, List.getElem_cons_zero, Act.put, List.setIfInBounds_toArray, List.set_cons_zero, List.set_cons_succ]
  refine wpAnyH_take (i := 13) (v := .pointer (some ⟨w.heap.size + 1, 1, none⟩)) rfl (by kernel_rfl) (by kernel_rfl) (by kernel_rfl) (fun _ _ _ h => h) (Or.inl ⟨by rfl, ?_⟩) (by assumption) ?_
  · (intro w1 hSw; (try dsimp only at hSw); go_simp)
  simp only [List.getElem_toArray, List.getElem_cons_succ, List.getElem_cons_zero, Act.put, List.setIfInBounds_toArray, List.set_cons_zero, List.set_cons_succ]
  refine wpAnyH_take (i := 14) (v := .int .i64 rb) rfl (by kernel_rfl) (by kernel_rfl) (by kernel_rfl) (fun _ _ _ h => h) (Or.inl ⟨by rfl, ?_⟩) (by assumption) ?_
  · (intro w1 hSw; (try dsimp only at hSw); go_simp)
  simp only [List.getElem_toArray, List.getElem_cons_succ, List.getElem_cons_zero, Act.put, List.setIfInBounds_toArray, List.set_cons_zero, List.set_cons_succ]
  refine wpAnyH_ready (rs := [10]) (by kernel_rfl) (by simp) ?_
  refine AllReadyH.cons (o := _) rfl (fun K hK => ?_) AllReadyH.nil
  go_simp
  refine (cmp_any _ _ ka kb _ (HRA.out.below hHeld.2.2.2.2.2.2) (HRB.out.below hHeld.2.2.2.2.2.2)).mono ?_
  rintro e w' ⟨rfl, hw'⟩
  subst w'
  go_simp
  refine hK.out _ _ ?_ (fun hHeld => ?_)
  · exact hHeld
  clear hK K
  refine wpAnyH_ready (rs := [15]) (by kernel_rfl) (by simp) ?_
  refine AllReadyH.cons (o := _) rfl (fun K hK => ?_) AllReadyH.nil
  go_simp
  refine (cmpi_any ra rb _).mono ?_
  rintro e w' ⟨rfl, hw'⟩
  subst w'
  go_simp
  refine hK.out _ _ ?_ (fun hHeld => ?_)
  · exact hHeld
  clear hK K
  refine wpAnyH_ready (rs := [16]) (by kernel_rfl) (by simp) ?_
  refine AllReadyH.cons (o := _) rfl (fun K hK => ?_) AllReadyH.nil
  go_simp
  refine hK.out _ _ ?_ (fun hHeld => ?_)
  · exact ⟨(World.cell?_alloc_lt _ _ _ (World.block_lt_of_cell? _ _ hHeld.1)).trans hHeld.1, (World.cell?_alloc_lt _ _ _ (World.block_lt_of_cell? _ _ hHeld.2.1)).trans hHeld.2.1, (World.cell?_alloc_lt _ _ _ (World.block_lt_of_cell? _ _ hHeld.2.2.1)).trans hHeld.2.2.1, (World.cell?_alloc_lt _ _ _ (World.block_lt_of_cell? _ _ hHeld.2.2.2.1)).trans hHeld.2.2.2.1, (World.cell?_alloc_lt _ _ _ (World.block_lt_of_cell? _ _ hHeld.2.2.2.2.1)).trans hHeld.2.2.2.2.1, (World.cell?_alloc_lt _ _ _ (World.block_lt_of_cell? _ _ hHeld.2.2.2.2.2.1)).trans hHeld.2.2.2.2.2.1, hHeld.2.2.2.2.2.2.alloc (by simp; omega) _⟩
  clear hK K
  refine wpAnyH_ready (rs := [17]) (by kernel_rfl) (by simp) ?_
  refine AllReadyH.cons (o := _) rfl (fun K hK => ?_) AllReadyH.nil
  go_simp
  refine (or_any (Lib.compareBytes ka kb) (cmpI ra rb) _ _ (by simp [go_sem]) (by simp [go_sem])).mono ?_
  rintro e w' ⟨rfl, hw'⟩
  subst w'
  rw [HE.out]
  go_simp
  refine hK.out _ _ ?_ (fun hHeld => ?_)
  · exact hHeld
  clear hK K
  refine wpAnyH_take (i := 18) (v := .int .i64 (ordF ka ra kb rb)) rfl (by kernel_rfl) (by kernel_rfl) (by kernel_rfl) (fun _ _ _ h => h) (Or.inl ⟨by rfl, ?_⟩) (by assumption) ?_
  · (intro w1 hSw; (try dsimp only at hSw); go_simp)
  simp only [List.getElem_toArray, List.getElem_cons_succ, List.getElem_cons_zero, Act.put, List.setIfInBounds_toArray, List.set_cons_zero, List.set_cons_succ]
  refine wpAnyH_done (by kernel_rfl) ?_ _
  refine NoPanic.normal ?_
  go_wp2_with fail
  go_ret
  exact ⟨rfl, hHeld.2.2.2.2.2.2⟩
end Go.Proofs.YthicmbjiblbcmaaGreat
