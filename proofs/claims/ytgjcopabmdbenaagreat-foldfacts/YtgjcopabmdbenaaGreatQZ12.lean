/- ME1 S1 MG2 MG3 RH, joined. -/
import Derived.Test.YtgjcopabmdbenaaGreatQZ1
import Derived.Test.YtgjcopabmdbenaaGreatQZ11
import Derived.Deep.Slices
import Derived.ProofKit
import Derived.OpenShut
import Derived.Lib.SmallJoins
import Derived.Lib.Bytealg
import Derived.Laws.Externs
import Derived.BigQuiet
import Derived.BigRegion
import Derived.Deep.RegionHeld3
import Derived.Deep.QuietTactic
/- Entries in memory: those that a slice reads, and those of one's own; rows of them, as arguments. -/
namespace Go.Proofs.YtgjcopabmdbenaaGreat
open Go.ChangeShapes Go.WideShapes Go.ChangeAt Go.RowKit Go.Joins

def agv (a : Ag) : Value := .agg #[.int .u64 a.c, .bool a.o, .int .i64 (hi a.s), .int .u64 (lo a.s), .int .i64 a.mn, .int .i64 a.mx]
def env (kv : Value) (a : Ag) : Value := .agg #[kv, .int .u64 a.c, .bool a.o, .int .i64 (hi a.s), .int .u64 (lo a.s), .int .i64 a.mn, .int .i64 a.mx]
theorem cell_row {w : World} {b : Nat} {cs : Array Value} {T : TypeId} (h : w.heap[b]? = some (.cells cs T)) (i : Nat) (hi : i < cs.size) : w.cell? ⟨b, i, none⟩ = some cs[i] ∧ w.frozen? ⟨b, i, none⟩ = false := by
  refine ⟨by simp [World.cell?, h, hi], by simp [World.frozen?, h]⟩
/-- An entry in memory: its key's slice, its key, what is known. -/
structure Ev where
  kv : Value
  k : Ks
  a : Ag
def c7 (x : Ev) : List Value := [x.kv, .int .u64 x.a.c, .bool x.a.o, .int .i64 (hi x.a.s), .int .u64 (lo x.a.s), .int .i64 x.a.mn, .int .i64 x.a.mx]
def evE (x : Ev) : En := (x.k, x.a)
/-- A slice of entries of one's own. -/
def EOwn (W : World) (base : Nat) (v : Value) (xs : List Ev) : Prop := W.ownsRow base 46 7 v xs.length (xs.flatMap c7) ∧ ∀ x ∈ xs, Own W base x.kv x.k
theorem c7_len (x : Ev) : (c7 x).length = 7 := rfl
theorem flat7 : ∀ (xs : List Ev) (j i : Nat) (hj : j < xs.length), i < 7 → (xs.flatMap c7)[7 * j + i]? = (c7 xs[j])[i]?
  | [], j, i, hj, _ => by simp at hj
  | x :: xs, 0, i, _, hi => by
    rw [List.flatMap_cons, List.getElem?_append_left (by rw [c7_len]; omega)]; simp
  | x :: xs, j + 1, i, hj, hi => by
    rw [List.flatMap_cons, List.getElem?_append_right (by rw [c7_len]; omega), c7_len, show 7 * (j + 1) + i - 7 = 7 * j + i by omega]
    exact flat7 xs j i (by simpa using hj) hi
/-- What a slice of entries holds. -/
theorem EOwn.at {w : World} {base : Nat} {v : Value} {xs : List Ev} (h : EOwn w base v xs) : ∃ a cap, v = .slice a xs.length cap ∧ xs.length ≤ cap ∧ cap ≤ maxLen ∧ (0 < xs.length → ∃ g, a = some ⟨g, 0, none⟩ ∧ base ≤ g ∧ g < w.heap.size ∧ ∀ j (hj : j < xs.length) (i : Nat) (hi : i < 7), w.cell? ⟨g, 7 * j + i, none⟩ = some ((c7 xs[j])[i]'hi) ∧ w.frozen? ⟨g, 7 * j + i, none⟩ = false) := by
  have hlt := World.ownsRow.lt h.1
  rcases h.1.2 with ⟨h1, h2⟩ | ⟨g, cap, cur, hv, hg, hw, hc, hm, _⟩
  · exact ⟨none, 0, by rw [h1, h2], by omega, by simp, fun h0 => by omega⟩
  · have hr := h.1
    rw [hv] at hr
    refine ⟨_, cap, hv, hc, hm, fun _ => ⟨g, rfl, hg, (hlt g (by rw [hv]; rfl)).2, fun j hj i hi => ⟨?_, World.ownsRow.frozenAt hr _⟩⟩⟩
    rw [World.ownsRow.cellAt hr _ (by omega), flat7 xs j i hj hi, List.getElem?_eq_getElem hi]
theorem cellsA : Tryz.prog.cellsOf 43 = 6 := by kernel_rfl
theorem cellsWd : Tryz.prog.cellsOf 41 = 2 := by kernel_rfl
theorem cells64 : Tryz.prog.cellsOf 2 = 1 := by kernel_rfl
theorem cellsU64 : Tryz.prog.cellsOf 39 = 1 := by kernel_rfl
theorem cellsBool : Tryz.prog.cellsOf 4 = 1 := by kernel_rfl
theorem array6 {α : Type} {cs : Array α} (h : cs.size = 6) : ∃ c0 c1 c2 c3 c4 c5, cs = #[c0, c1, c2, c3, c4, c5] := by
  obtain ⟨l⟩ := cs
  match l, h with
  | [c0, c1, c2, c3, c4, c5], _ => exact ⟨c0, c1, c2, c3, c4, c5, rfl⟩
theorem some_of_len {α : Type} {xs : List α} {n i : Nat} (h : xs.length = n) (hi : i < n) : ∃ y, xs[i]? = some y := ⟨xs[i], by rw [List.getElem?_eq_getElem (by omega)]⟩

/-- The facts on what is known that come with its kind. -/
structure AgOk (a : Ag) : Prop where
  c1 : 0 ≤ a.c
  c2 : a.c < 18446744073709551616
  n1 : -9223372036854775808 ≤ a.mn
  n2 : a.mn ≤ 9223372036854775807
  x1 : -9223372036854775808 ≤ a.mx
  x2 : a.mx ≤ 9223372036854775807
  s1 : -170141183460469231731687303715884105728 ≤ a.s
  s2 : a.s < 170141183460469231731687303715884105728

set_option maxRecDepth 100000 in
theorem openA' {H : Type} {enc : TypeId × Value → H} {W : World} {base : Nat} {spare : Nat → Bool} {held : Bool} {c0 c1 c2 c3 c4 c5 : Value} {x : DataW H × List MemPlace} {fuel : Nat}
    (hf : DataW.trod enc Tryz.prog W base spare held fuel 43 [c0, c1, c2, c3, c4, c5] = some x) :
    ∃ a : Ag, [c0, c1, c2, c3, c4, c5] = [.int .u64 a.c, .bool a.o, .int .i64 (hi a.s), .int .u64 (lo a.s), .int .i64 a.mn, .int .i64 a.mx] ∧ AgOk a := by
  obtain ⟨xs, n, _, _, _, hlen, hfs⟩ := DataW.trod_struct Tryz.underlying43 hf
  obtain ⟨y0, g0⟩ := some_of_len (i := 0) hlen (by decide)
  obtain ⟨y1, g1⟩ := some_of_len (i := 1) hlen (by decide)
  obtain ⟨y2, g2⟩ := some_of_len (i := 2) hlen (by decide)
  obtain ⟨y3, g3⟩ := some_of_len (i := 3) hlen (by decide)
  obtain ⟨y4, g4⟩ := some_of_len (i := 4) hlen (by decide)
  have e0 := (hfs 0 _ rfl).trans g0
  have e1 := (hfs 1 _ rfl).trans g1
  have e2 := (hfs 2 _ rfl).trans g2
  have e3 := (hfs 3 _ rfl).trans g3
  have e4 := (hfs 4 _ rfl).trans g4
  simp [cellsU64] at e0
  simp [cellsBool] at e1
  simp [cellsWd] at e2
  simp [cells64] at e3
  simp [cells64] at e4
  obtain ⟨a0, q0, _, w0⟩ := DataW.trod_int Tryz.underlying39 e0
  obtain ⟨a1, q1, _⟩ := DataW.trod_bool Tryz.underlying4 e1
  obtain ⟨a3, q3, _, w3⟩ := DataW.trod_int Tryz.underlying2 e3
  obtain ⟨a4, q4, _, w4⟩ := DataW.trod_int Tryz.underlying2 e4
  obtain ⟨z0, z1, m, _, _, f0, f1⟩ := trod_struct2 Tryz.underlying41 e2
  simp [cells64] at f0
  simp [cellsU64] at f1
  obtain ⟨s0, t0, _, u0⟩ := DataW.trod_int Tryz.underlying2 f0
  obtain ⟨s1, t1, _, u1⟩ := DataW.trod_int Tryz.underlying39 f1
  simp at q0 q1 q3 q4 t0 t1
  subst q0 q1 q3 q4 t0 t1
  have b0 := bounds_u64 w0
  have b3 := bounds_i64 w3
  have b4 := bounds_i64 w4
  have d0 := bounds_i64 u0
  have d1 := bounds_u64 u1
  obtain ⟨sx, x1, x2, rfl, rfl⟩ := of_halves s0 s1 (by omega) (by omega) (by omega) (by omega)
  exact ⟨⟨a0, a1, sx, a3, a4⟩, rfl, b0.1, (by have := b0.2; show a0 < _; omega), b3.1, b3.2, b4.1, b4.2, x1, x2⟩
set_option maxRecDepth 100000 in
theorem openB' {H : Type} {enc : TypeId × Value → H} {W : World} {base : Nat} {spare : Nat → Bool} {held : Bool} {cs : List Value} {x : DataW H × List MemPlace} {fuel : Nat}
    (hf : DataW.trod enc Tryz.prog W base spare held fuel 44 cs = some x) : ∃ v l, cs = [v] ∧ Reads W v l := by
  rcases open_ints Tryz.underlying44 Tryz.underlying5 (by kernel_rfl) hf with ⟨rfl, _⟩ | ⟨x, len, cap, zs, rfl, _, hl, hm, hz, _, hcell, hwz⟩
  · exact ⟨_, [], rfl, .inl ⟨rfl, _, _, rfl, fun _ => rfl⟩⟩
  · have hzl : len ≤ zs.length := by rw [hz]; split <;> omega
    rcases Nat.eq_zero_or_pos len with h0 | h0
    · subst h0; exact ⟨_, [], rfl, .inl ⟨rfl, _, _, rfl, fun h => by cases h⟩⟩
    · refine ⟨_, (zs.take len).map fun z => UInt8.ofNat z.toNat, rfl, .inr ?_⟩
      have hlen : ((zs.take len).map fun z => UInt8.ofNat z.toNat).length = len := by simp; omega
      have c0 := hcell 0 (by omega)
      have e0 : x.add 0 = x := by simp [Addr.add]
      rw [e0] at c0
      obtain ⟨hb, hs⟩ := cell_block c0
      obtain ⟨b, off, spot⟩ := x
      simp only at hb hs
      subst hs
      refine ⟨b, off, cap, by rw [hlen], by omega, by omega, hm, hb, fun j hj => ?_⟩
      have hj' : j < len := by omega
      have cj := hcell j (by omega)
      have ea : (⟨b, off, none⟩ : Addr).add j = ⟨b, off + j, none⟩ := by simp [Addr.add]
      rw [ea] at cj
      rw [cj]
      have hzj : j < zs.length := by omega
      have hg : zs.getD j 0 = zs[j] := by simp [List.getD, hzj]
      have hw := bounds_u8 (hwz zs[j] (List.getElem_mem hzj))
      rw [hg]
      have e1 : ((zs.take len).map fun z => UInt8.ofNat z.toNat)[j] = UInt8.ofNat (zs[j]).toNat := by simp
      rw [e1]
      unfold bc
      have e2 : (UInt8.ofNat (zs[j]).toNat).toNat = (zs[j]).toNat := by simp [UInt8.toNat_ofNat']; omega
      rw [e2]
      congr 2
      omega
theorem seven_of {α : Type} : ∀ {l : List α}, l.length = 7 → ∃ c0 c1 c2 c3 c4 c5 c6, l = [c0, c1, c2, c3, c4, c5, c6]
  | [c0, c1, c2, c3, c4, c5, c6], _ => ⟨c0, c1, c2, c3, c4, c5, c6, rfl⟩
set_option maxRecDepth 100000 in
/-- The seven cells of an entry. -/
theorem openE' {H : Type} {enc : TypeId × Value → H} {W : World} {base : Nat} {spare : Nat → Bool} {held : Bool} {c0 c1 c2 c3 c4 c5 c6 : Value} {x : DataW H × List MemPlace} {fuel : Nat}
    (hf : DataW.trod enc Tryz.prog W base spare held fuel 46 [c0, c1, c2, c3, c4, c5, c6] = some x) :
    ∃ (kv : Value) (k : Ks) (a : Ag), [c0, c1, c2, c3, c4, c5, c6] = c7 ⟨kv, k, a⟩ ∧ Reads W kv k ∧ AgOk a := by
  obtain ⟨z0, z1, m, _, _, f0, f1⟩ := trod_struct2 Tryz.underlying46 hf
  have ck : Tryz.prog.cellsOf 44 = 1 := by kernel_rfl
  simp [ck] at f0
  simp [cellsA] at f1
  obtain ⟨kv, k, e0, hr⟩ := openB' f0
  obtain ⟨a, e1, ha⟩ := openA' f1
  simp at e0
  subst e0
  refine ⟨c0, k, a, ?_, hr, ha⟩
  rw [e1]; rfl
def CnOk (a : Ag) : Prop := 0 ≤ a.c ∧ a.c < 18446744073709551616
theorem AgOk.cn {a : Ag} (h : AgOk a) : CnOk a := ⟨h.c1, h.c2⟩
/-- A slice reads these entries. -/
def EReads (w : World) (v : Value) (L : List En) : Prop :=
  ∃ a cap, v = .slice a L.length cap ∧ L.length ≤ cap ∧ cap ≤ maxLen ∧ (L = [] ∨ ∃ b off, a = some ⟨b, off, none⟩ ∧ b < w.heap.size ∧ ∀ j (hj : j < L.length), ∃ kv, (∀ i (hi : i < 7), w.cell? ⟨b, off + (7 * j + i), none⟩ = some ((c7 ⟨kv, L[j].1, L[j].2⟩)[i]'hi)) ∧ Reads w kv L[j].1 ∧ CnOk L[j].2)
theorem EReads.below {w w' : World} {v : Value} {L : List En} (h : EReads w v L) (hb : Below w.heap.size w w') : EReads w' v L := by
  obtain ⟨a, cap, rfl, h1, h2, h3⟩ := h
  refine ⟨a, cap, rfl, h1, h2, ?_⟩
  rcases h3 with h3 | ⟨b, off, h4, h5, h6⟩
  · exact .inl h3
  · refine .inr ⟨b, off, h4, Nat.lt_of_lt_of_le h5 hb.size, fun j hj => ?_⟩
    obtain ⟨kv, g1, g2, g3⟩ := h6 j hj
    exact ⟨kv, fun i hi => (hb.cell (p := ⟨b, off + (7 * j + i), none⟩) h5).trans (g1 i hi), g2.below hb, g3⟩
set_option maxRecDepth 100000 in
theorem openEs {H : Type} {enc : TypeId × Value → H} {W : World} {base : Nat} {spare : Nat → Bool} {held : Bool} {cs : List Value} {x : DataW H × List MemPlace} {fuel : Nat}
    (hf : DataW.trod enc Tryz.prog W base spare held fuel 28 cs = some x) : ∃ v L, cs = [v] ∧ EReads W v L := by
  rcases Go.Deep.open_slice Tryz.underlying28 hf with ⟨hcs, _⟩ | ⟨x, len, cap, m, n, D, Pl, hcs, _, hl, hm, hz, _, hcell⟩
  · subst hcs
    exact ⟨_, [], rfl, none, 0, rfl, by simp, by simp, .inl rfl⟩
  · subst hcs
    have hzl : len ≤ m := by rw [hz]; split <;> omega
    have hce : Tryz.prog.cellsOf 46 = 7 := by kernel_rfl
    rw [hce] at hcell
    have hall : ∀ j, ∃ (y : Ev), j < len → (∀ i (hi : i < 7), W.cell? (x.add (7 * j + i)) = some ((c7 y)[i]'hi)) ∧ Reads W y.kv y.k ∧ AgOk y.a := by
      intro j
      by_cases hj : j < len
      · obtain ⟨cs', hc1, hc2⟩ := hcell j (by omega)
        obtain ⟨_, hl7, hq⟩ := World.cells?_some hc1
        obtain ⟨c0, c1, c2, c3, c4, c5, c6, rfl⟩ := seven_of hl7
        obtain ⟨kv, k, a, e, hr, ha⟩ := openE' hc2
        refine ⟨⟨kv, k, a⟩, fun _ => ⟨fun i hi => ?_, hr, ha⟩⟩
        have h1 := hq i hi
        rw [e, List.getElem?_eq_getElem (show i < (c7 ⟨kv, k, a⟩).length from hi)] at h1
        have ea : (x.add (j * 7)).add i = x.add (7 * j + i) := by
          obtain ⟨xb, xo, xs⟩ := x
          by_cases h1 : j = 0
          · subst h1; simp [Addr.add]
          · have h2 : j * 7 ≠ 0 := by omega
            have h3 : 7 * j + i ≠ 0 := by omega
            by_cases h4 : i = 0
            · subst h4
              have h5 : j * 7 = 7 * j + 0 := by omega
              rw [h5]
              simp [Addr.add]
            · have h5 : xo + j * 7 + i = xo + (7 * j + i) := by omega
              unfold Addr.add
              rw [if_neg h2, if_neg h4, if_neg h3]
              simp only [h5]
        rw [ea] at h1
        exact h1
      · exact ⟨⟨.bool false, [], agZ⟩, fun h => absurd h hj⟩
    obtain ⟨ys, hys⟩ := Classical.axiomOfChoice hall
    rcases Nat.eq_zero_or_pos len with h0 | h0
    · subst h0
      exact ⟨_, [], rfl, _, cap, rfl, by simp, hm, .inl rfl⟩
    · have k0 := (hys 0 h0).1 0 (by decide)
      have e0 : x.add (7 * 0 + 0) = x := by simp [Addr.add]
      rw [e0] at k0
      obtain ⟨hb, hs⟩ := cell_block k0
      obtain ⟨b, off, spot⟩ := x
      simp only at hb hs
      subst hs
      refine ⟨_, (List.range len).map fun j => evE (ys j), rfl, _, cap, by simp, by simpa using hl, hm, .inr ⟨b, off, rfl, hb, fun j hj => ?_⟩⟩
      simp at hj
      obtain ⟨g1, g2, g3⟩ := hys j hj
      have ej : ((List.range len).map fun j => evE (ys j))[j]'(by simpa using hj) = evE (ys j) := by simp
      rw [ej]
      refine ⟨(ys j).kv, fun i hi => ?_, g2, g3.cn⟩
      have ea : (⟨b, off, none⟩ : Addr).add (7 * j + i) = ⟨b, off + (7 * j + i), none⟩ := by simp [Addr.add]
      have := g1 i hi
      rw [ea] at this
      exact this
theorem EReads.form {w : World} {v : Value} {L : List En} (h : EReads w v L) : ∃ a cap, v = .slice a L.length cap ∧ L.length ≤ cap ∧ cap ≤ maxLen := by
  obtain ⟨a, cap, rfl, h1, h2, _⟩ := h
  exact ⟨a, cap, rfl, h1, h2⟩
theorem EReads.ok {w : World} {v : Value} {L : List En} (h : EReads w v L) : ∀ x ∈ L, CnOk x.2 := by
  obtain ⟨a, cap, rfl, h1, h2, h3⟩ := h
  intro x hx
  rcases h3 with rfl | ⟨b, off, _, _, h6⟩
  · cases hx
  · obtain ⟨j, hj, rfl⟩ := List.getElem_of_mem hx
    obtain ⟨_, _, _, h⟩ := h6 j hj
    exact h
theorem EOwn.reads {w : World} {base : Nat} {v : Value} {xs : List Ev} (h : EOwn w base v xs) (hk : ∀ x ∈ xs, CnOk x.a) : EReads w v (xs.map evE) := by
  obtain ⟨a, cap, rfl, h1, h2, h3⟩ := h.at
  refine ⟨a, cap, by simp, by simpa using h1, h2, ?_⟩
  rcases Nat.eq_zero_or_pos xs.length with h0 | h0
  · exact .inl (by rw [List.length_eq_zero_iff.1 h0]; rfl)
  · obtain ⟨g, rfl, _, h5, h6⟩ := h3 h0
    refine .inr ⟨g, 0, rfl, h5, fun j hj => ?_⟩
    simp at hj
    have e : (xs.map evE)[j]'(by simpa using hj) = evE xs[j] := by simp
    rw [e]
    refine ⟨xs[j].kv, fun i hi => ?_, (h.2 _ (List.getElem_mem hj)).reads, hk _ (List.getElem_mem hj)⟩
    rw [show 0 + (7 * j + i) = 7 * j + i by omega]
    exact (h6 j hj i hi).1
/-- A slice reads these rows. -/
def RReads (w : World) (v : Value) (rs : List (List En)) : Prop :=
  ∃ a cap, v = .slice a rs.length cap ∧ rs.length ≤ cap ∧ cap ≤ maxLen ∧ (rs = [] ∨ ∃ b off, a = some ⟨b, off, none⟩ ∧ b < w.heap.size ∧ ∀ j (hj : j < rs.length), ∃ ev, w.cell? ⟨b, off + j, none⟩ = some ev ∧ EReads w ev rs[j])
theorem RReads.below {w w' : World} {v : Value} {rs : List (List En)} (h : RReads w v rs) (hb : Below w.heap.size w w') : RReads w' v rs := by
  obtain ⟨a, cap, rfl, h1, h2, h3⟩ := h
  refine ⟨a, cap, rfl, h1, h2, ?_⟩
  rcases h3 with h3 | ⟨b, off, h4, h5, h6⟩
  · exact .inl h3
  · refine .inr ⟨b, off, h4, Nat.lt_of_lt_of_le h5 hb.size, fun j hj => ?_⟩
    obtain ⟨ev, g1, g2⟩ := h6 j hj
    exact ⟨ev, (hb.cell (p := ⟨b, off + j, none⟩) h5).trans g1, g2.below hb⟩
end Go.Proofs.YtgjcopabmdbenaaGreat

/- The contracts of bytes.Compare and bytes.Equal; the order of bytes. -/
namespace Go.Proofs.YtgjcopabmdbenaaGreat
open Go.RowKit

theorem run_loadBytes (w : World) : ∀ (l : List UInt8) (b off : Nat) (acc : ByteArray), (∀ j (h : j < l.length), w.cell? ⟨b, off + j, none⟩ = some (bc l[j])) →
    (Extern.Bytes.loadBytes ⟨b, off, none⟩ l.length acc).run Tryz.prog w = .ok ⟨acc.data ++ l.toArray⟩ w := by
  intro l
  induction l with
  | nil => intro b off acc _; simp [Extern.Bytes.loadBytes, Sem.run_pure]
  | cons x l ih =>
    intro b off acc h
    have h0 := h 0 (by simp)
    simp only [Nat.add_zero, List.getElem_cons_zero] at h0
    have e1 : (⟨b, off, none⟩ : Addr).add 1 = ⟨b, off + 1, none⟩ := by simp [Addr.add]
    have := ih b (off + 1) (acc.push x) (fun j hj => by
      have := h (j + 1) (by simpa using hj)
      simpa [Nat.add_assoc, Nat.add_comm 1 j] using this)
    have e2 : ((x.toNat : Int).toNat).toUInt8 = x := by simp
    unfold bc at h0
    simp only [List.length_cons, Extern.Bytes.loadBytes, Sem.run_bind, run_load, h0, Result.andThen, e1, e2, this]
    congr 1
    simp [ByteArray.push]
theorem run_bytesOf {w : World} {v : Value} {l : List UInt8} (h : Reads w v l) : (Extern.Bytes.bytesOf v).run Tryz.prog w = .ok ⟨l.toArray⟩ w := by
  rcases h with ⟨rfl, a, cap, rfl, _⟩ | ⟨b, off, cap, rfl, h2, h3, h4, h5, h6⟩
  · cases a with
    | none => simp [Extern.Bytes.bytesOf, Sem.run_pure]; rfl
    | some a => simp [Extern.Bytes.bytesOf, Extern.Bytes.loadBytes, Sem.run_pure]; rfl
  · have := run_loadBytes w l b off ByteArray.empty h6
    simp only [Extern.Bytes.bytesOf]
    rw [this]; simp
theorem run_cmp {w : World} {va vb : Value} {a b : List UInt8} (ha : Reads w va a) (hb : Reads w vb b) : (Extern.BytealgCompare.compare #[va, vb]).run Tryz.prog w = .ok (.int .i64 (Lib.compareBytes a b)) w := by
  change Sem.run Tryz.prog (do pure (goInt (Extern.BytealgCompare.cmp (← Extern.Bytes.bytesOf va) (← Extern.Bytes.bytesOf vb)))) w = _
  simp only [Sem.run_bind, run_bytesOf ha, run_bytesOf hb, Sem.run_pure, Result.andThen]
  rw [Lib.cmp_eq]
  rfl
theorem cmp_any (va vb : Value) (a b : List UInt8) (w : World) (ha : Reads w va a) (hb : Reads w vb b) :
    Calls Tryz.prog 36 #[va, vb] w fun e w' => e = .returned (.int .i64 (Lib.compareBytes a b)) ∧ w' = w := by
  have hr := run_cmp ha hb
  obtain ⟨a1, c1, rfl, _⟩ := ha.form
  obtain ⟨a2, c2, rfl, _⟩ := hb.form
  go_enter Tryz.func36, Tryz.ntmps36
  go_wp2_with (rw [run_callFunc_extern Tryz.func63 (by kernel_rfl) (by kernel_rfl) (by kernel_rfl) (e := Extern.BytealgCompare.compare) (by kernel_rfl), hr]; simp only [Result.andThen]; rw [Oper.upon_value])
  go_ret
  exact ⟨rfl, rfl⟩
end Go.Proofs.YtgjcopabmdbenaaGreat

/- The contract of merge's order. -/
namespace Go.Proofs.YtgjcopabmdbenaaGreat
open Go.RowKit

def cmpI (a b : Int) : Int := if a < b then -1 else if b < a then 1 else 0
theorem isNaN_any (a : Int) (w : World) : Calls Tryz.prog 86 #[.int .i64 a] w fun e w' => e = .returned (.bool false) ∧ w' = w := by
  go_enter Tryz.func86, Tryz.ntmps86
  go_wp2_with fail
  go_ret
  exact ⟨by simp, rfl⟩
theorem cmpi_any (a b : Int) (w : World) : Calls Tryz.prog 59 #[.int .i64 a, .int .i64 b] w fun e w' => e = .returned (.int .i64 (cmpI a b)) ∧ w' = w := by
  go_enter Tryz.func59, Tryz.ntmps59
  go_wp2_with fail
  refine (isNaN_any _ _).mono ?_
  rintro e w1 ⟨rfl, hw1⟩
  subst w1
  go_wp2_with fail
  refine (isNaN_any _ _).mono ?_
  rintro e w1 ⟨rfl, hw1⟩
  subst w1
  by_cases h1 : a < b
  · have HZ : Hid (cmpI a b = -1) := by unfold Hid cmpI; rw [if_pos h1]
    go_wp2_with fail
    go_ret
    exact ⟨by rw [HZ.out]; rfl, rfl⟩
  · by_cases h2 : b < a
    · have HZ : Hid (cmpI a b = 1) := by unfold Hid cmpI; rw [if_neg h1, if_pos h2]
      go_wp2_with fail
      go_ret
      exact ⟨by rw [HZ.out]; rfl, rfl⟩
    · have HZ : Hid (cmpI a b = 0) := by unfold Hid cmpI; rw [if_neg h1, if_neg h2]
      go_wp2_with fail
      go_ret
      exact ⟨by rw [HZ.out]; rfl, rfl⟩
def orF (x y : Int) : Int := if x = 0 then y else x
set_option maxHeartbeats 1000000 in
theorem or_any (x y : Int) (g : Nat) (w : World) (c0 : w.cell? ⟨g, 0, none⟩ = some (.int .i64 x)) (c1 : w.cell? ⟨g, 1, none⟩ = some (.int .i64 y)) :
    Calls Tryz.prog 56 #[.slice (some ⟨g, 0, none⟩) 2 2] w fun e w' => e = .returned (.int .i64 (orF x y)) ∧ w' = w := by
  go_enter Tryz.func56, Tryz.ntmps56
  go_wp2_with fail
  go_loopw [8] (fun i wr => Hid (wr = w) ∧ ∃ k : Nat, k ≤ 2 ∧ i = .int .i64 (k : Int) ∧ (1 ≤ k → x = 0) ∧ (2 ≤ k → y = 0)) (fun i _ => 2 - (intOf i).toNat)
  case atStart => exact ⟨rfl, 0, by omega, rfl, fun h => by omega, fun h => by omega⟩
  case round =>
    obtain ⟨HW, k, hk, rfl, hx, hy⟩ := hrel
    obtain rfl := HW.out
    clear HW
    rcases Nat.lt_or_ge k 2 with hk2 | hk2
    · rcases Nat.eq_zero_or_pos k with rfl | hk0
      · clear hx hy
        by_cases hx0 : x = 0
        · have hxb : (x == 0) = true := by simp [hx0]
          have HX : Hid (x = 0) := hx0
          clear hx0
          go_wp2_with fail
          go_roundw
          case rel => exact ⟨trivial, 1, by omega, by go_num, fun _ => HX.out, fun h => by omega⟩
          case measure => simp [intOf]
        · have hxb : (x == 0) = false := by simp [hx0]
          have HZ : Hid (orF x y = x) := by unfold Hid orF; rw [if_neg hx0]
          clear hx0
          go_wp2_with fail
          go_ret
          exact ⟨by rw [HZ.out]; rfl, rfl⟩
      · obtain rfl : k = 1 := by omega
        have HX : Hid (x = 0) := hx (by omega)
        clear hx hy
        by_cases hy0 : y = 0
        · have hyb : (y == 0) = true := by simp [hy0]
          have HY : Hid (y = 0) := hy0
          clear hy0
          go_wp2_with fail
          go_roundw
          case rel => exact ⟨trivial, 2, by omega, by go_num, fun _ => HX.out, fun _ => HY.out⟩
          case measure => simp [intOf]
        · have hyb : (y == 0) = false := by simp [hy0]
          have HZ : Hid (orF x y = y) := by unfold Hid orF; rw [if_pos HX.out]
          clear hy0
          go_wp2_with fail
          go_ret
          exact ⟨by rw [HZ.out]; rfl, rfl⟩
    · obtain rfl : k = 2 := by omega
      have HX : Hid (x = 0) := hx (by omega)
      have HY : Hid (y = 0) := hy (by omega)
      have HZ : Hid (orF x y = 0) := by unfold Hid orF; rw [if_pos HX.out, HY.out]
      clear hx hy
      go_wp2_with fail
      go_ret
      exact ⟨by rw [HZ.out]; rfl, rfl⟩
/-- Which of two parts is ahead. -/
def ordF (ka : Ks) (ra : Int) (kb : Ks) (rb : Int) : Int := orF (Lib.compareBytes ka kb) (cmpI ra rb)
theorem ordF_lt {ka kb : Ks} {m n : Nat} : ordF ka m kb n < 0 ↔ ltT (ka, m) (kb, n) := by
  unfold ordF orF ltT ltK cmpI
  rcases cmp_three ka kb with h | h | h
  · rw [h]; simp
  · rw [h]
    have := cmp_zero h
    subst this
    simp only [true_and]
    by_cases h1 : m < n
    · have : (m : Int) < n := by omega
      simp [h1]
    · by_cases h2 : n < m
      · have : (n : Int) < m := by omega
        simp [h1, h2]
      · simp [h1, h2]
  · rw [h]
    simp only [show ((1 : Int) = 0) = False by simp, if_false]
    constructor
    · intro h; omega
    · rintro (h2 | ⟨rfl, _⟩)
      · omega
      · rw [cmp_refl] at h; omega
end Go.Proofs.YtgjcopabmdbenaaGreat

/- A heap of rows in memory; which part is ahead. -/
namespace Go.Proofs.YtgjcopabmdbenaaGreat
open Go.RowKit

/-- What is left of a row, in memory: its array, where it begins there, its slice's capacity, its entries; its row's place. -/
structure Pt where
  g : Nat
  o : Nat
  cap : Nat
  xs : List Ev
  r : Nat
def ptZ : Pt := ⟨0, 0, 0, [], 0⟩
def lv (p : Pt) : Value := .slice (some ⟨p.g, p.o, none⟩) p.xs.length p.cap
def p2 (p : Pt) : List Value := [lv p, .int .i64 (p.r : Int)]
def paP (p : Pt) : Pa := (p.xs.map evE, p.r)
def lePt (p q : Pt) : Prop := ltP (paP p) (paP q)
structure PtOk (w : World) (lo hh : Nat) (p : Pt) : Prop where
  g1 : lo ≤ p.g
  g2 : p.g < hh
  n1 : 0 < p.xs.length
  n2 : p.xs.length ≤ p.cap
  n3 : p.cap ≤ maxLen
  ce : ∃ cur, w.heap[p.g]? = some (.cells cur 46) ∧ ∀ j (hj : j < p.xs.length) i (hi : i < 7), cur[p.o + (7 * j + i)]? = some ((c7 p.xs[j])[i]'hi)
  ky : ∀ x ∈ p.xs, Own w lo x.kv x.k
/-- Blocks of cells stay. -/
def Kp (A B : World) : Prop := ∀ (k : Nat) (cs : Array Value) (t : TypeId) (fr : Nat × Nat), A.heap[k]? = some (Obj.cells cs t fr) → B.heap[k]? = some (Obj.cells cs t fr)
theorem Kp.of_below {A B : World} (h : Below A.heap.size A B) : Kp A B := fun k _ _ _ hk => (h.block k (Array.getElem?_eq_some_iff.1 hk).1).trans hk
theorem own_kp {A B : World} {base : Nat} {v : Value} {l : List UInt8} (h : Own A base v l) (hk : ∀ (k : Nat) (cs : Array Value) (fr : Nat × Nat), A.heap[k]? = some (Obj.cells cs 5 fr) → B.heap[k]? = some (Obj.cells cs 5 fr)) : Own B base v l := by
  obtain ⟨h1, h2⟩ := h
  refine ⟨h1, ?_⟩
  rcases h2 with h2 | ⟨g, cap, cur, hv, hg, hw, r⟩
  · exact .inl h2
  · exact .inr ⟨g, cap, cur, hv, hg, hk _ _ _ hw, r⟩
theorem row_kp {A B : World} {base n sz : Nat} {e : TypeId} {v : Value} {xs : List Value} (h : A.ownsRow base e sz v n xs) (hk : Kp A B) : B.ownsRow base e sz v n xs := by
  obtain ⟨h1, h2⟩ := h
  refine ⟨h1, ?_⟩
  rcases h2 with h2 | ⟨g, cap, cur, hv, hg, hw, r⟩
  · exact .inl h2
  · exact .inr ⟨g, cap, cur, hv, hg, hk _ _ _ _ hw, r⟩
theorem PtOk.kp {A B : World} {lo hh : Nat} {p : Pt} (h : PtOk A lo hh p) (hk : Kp A B) : PtOk B lo hh p := by
  obtain ⟨cur, h1, h2⟩ := h.ce
  exact ⟨h.g1, h.g2, h.n1, h.n2, h.n3, ⟨cur, hk _ _ _ _ h1, h2⟩, fun x hx => own_kp (h.ky x hx) (fun _ _ _ q => hk _ _ _ _ q)⟩
theorem flat2 : ∀ (P : List Pt) (j i : Nat) (hj : j < P.length), i < 2 → (P.flatMap p2)[2 * j + i]? = (p2 P[j])[i]?
  | [], j, i, hj, _ => by simp at hj
  | x :: xs, 0, i, _, hi => by
    rw [List.flatMap_cons, List.getElem?_append_left (by show _ < 2; omega)]; simp
  | x :: xs, j + 1, i, hj, hi => by
    rw [List.flatMap_cons, List.getElem?_append_right (by show 2 ≤ _; omega)]
    have : 2 * (j + 1) + i - (p2 x).length = 2 * j + i := by show 2 * (j + 1) + i - 2 = _; omega
    rw [this]
    exact flat2 xs j i (by simpa using hj) hi
/-- A part's first entry. -/
theorem PtOk.first {w : World} {lo hh : Nat} {p : Pt} (h : PtOk w lo hh p) : ∃ x xs, p.xs = x :: xs ∧ p.g < w.heap.size ∧ (∀ i (hi : i < 7), w.cell? ⟨p.g, p.o + i, none⟩ = some ((c7 x)[i]'hi) ∧ w.frozen? ⟨p.g, p.o + i, none⟩ = false) ∧ Own w lo x.kv x.k := by
  have h1 := h.n1
  obtain ⟨cur, h2, h3⟩ := h.ce
  cases hx : p.xs with
  | nil => rw [hx] at h1; simp at h1
  | cons x xs =>
    refine ⟨x, xs, rfl, (Array.getElem?_eq_some_iff.1 h2).1, fun i hi => ⟨?_, by simp [World.frozen?, h2]⟩, h.ky x (by rw [hx]; exact List.mem_cons_self ..)⟩
    have := h3 0 h1 i hi
    simp only [hx, Nat.mul_zero, Nat.zero_add, List.getElem_cons_zero] at this
    rw [Go.Joins.cell_of_block h2 (p.o + i), this]
    congr 1
theorem hd_first {p : Pt} {x : Ev} {xs : List Ev} (h : p.xs = x :: xs) : hdT (paP p) = (x.k, p.r) := by unfold hdT paP; rw [h]; rfl
def AhPost (P : List Pt) (i j : Nat) (w : World) (e : Ending) (w' : World) : Prop := ∃ b : Bool, e = .returned (.bool b) ∧ (b = true ↔ i < P.length ∧ lePt (P.getD i ptZ) (P.getD j ptZ)) ∧ Below w.heap.size w w'
end Go.Proofs.YtgjcopabmdbenaaGreat

/- A drawn region with a store at its end: what is loaded ahead of it is taken in the world ahead of it. -/
namespace Go.Proofs.YtgjcopabmdbenaaGreat
open Go.RowKit

section
variable {P : Program} {ops : Array Oper} {Q : Exit → Act → World → Prop} {md : Region.Mode} {k : Nat} {St Pr : World → Prop}
/-- What holds all the time, and what holds till operation k has come up. -/
def StK (k : Nat) (St Pr : World → Prop) (L : Array Bool) (w : World) : Prop := St w ∧ (L.getD k false = false → Pr w)
def wpAnyS (P : Program) (md : Region.Mode) (ops : Array Oper) (Q : Exit → Act → World → Prop) (k : Nat) (St Pr : World → Prop) : Nat → Array Bool → Act → World → Prop
  | 0, listed, a, w => Region.ready md ops listed = [] ∧ Q .normal a w
  | fuel + 1, listed, a, w =>
    (Region.ready md ops listed = [] → Q .normal a w) ∧
    ∀ i ∈ Region.ready md ops listed, wpOp P ops Q i (fun a' w' => StK k St Pr (listed.setIfInBounds i true) w' ∧ wpAnyS P md ops Q k St Pr fuel (listed.setIfInBounds i true) a' w') a w
theorem wpAny_of_S : ∀ (fuel : Nat) (listed : Array Bool) (a : Act) (w : World), wpAnyS P md ops Q k St Pr fuel listed a w → wpAny P md ops Q fuel listed a w
  | 0, _, _, _, h => h
  | fuel + 1, _, _, _, h => ⟨h.1, fun i hi => wpOp_mono (fun a' w' h' => wpAny_of_S fuel _ a' w' h'.2) (h.2 i hi)⟩
/-- Whatever came up, what it waits for came up. -/
def Cl (md : Region.Mode) (ops : Array Oper) (L : Array Bool) : Prop := ∀ j o, ops[j]? = some o → L.getD j false = true → ∀ e ∈ o.after, Region.binds md e = true → L.getD e.on false = true
def clB (md : Region.Mode) (ops : Array Oper) (L : Array Bool) : Bool := (List.range ops.size).all fun j => !L.getD j false || match ops[j]? with | some o => o.after.all (fun e => !Region.binds md e || L.getD e.on false) | none => true
theorem clB_spec {L : Array Bool} (h : clB md ops L = true) : Cl md ops L := by
  intro j o ho hl e he hb
  have h1 := List.all_eq_true.1 h j (List.mem_range.2 (Array.getElem?_eq_some_iff.1 ho).1)
  rw [hl, ho] at h1
  simp only [Bool.not_true, Bool.false_or] at h1
  have h2 := Array.all_eq_true_iff_forall_mem.1 h1 e he
  rw [hb] at h2
  simpa using h2
theorem Cl.set {L : Array Bool} {j : Nat} (h : Cl md ops L) (hj : j ∈ Region.ready md ops L) : Cl md ops (L.setIfInBounds j true) := by
  obtain ⟨_, o, ho, hall⟩ := mem_ready.1 hj
  intro i oi hoi hl e he hb
  by_cases hij : j = i
  · subst hij
    rw [ho] at hoi
    obtain rfl : o = oi := by simpa using hoi
    exact getD_set_true (hall e he hb)
  · rw [getD_set_ne false hij] at hl
    exact getD_set_true (h i oi hoi hl e he hb)
/-- Does operation k wait for i? -/
def waits (md : Region.Mode) (ops : Array Oper) (k i : Nat) : Bool := match ops[k]? with | some o => o.after.any (fun e => Region.binds md e && e.on == i) | none => false
theorem wpAnyS_first {i : Nat} {oi : Oper} {v : Value} (hi : ops[i]? = some oi) (hsel : ∀ (j : Nat) (o : Oper) cs b, ops[j]? = some o → o.op ≠ .select cs b)
    (hQ : ∀ c a w, Q (.panic c) (a.put oi.dst v) w → Q (.panic c) a w) (hik : i ≠ k) (dep : Bool) (hdep : waits md ops k i = dep) :
    ∀ (fuel : Nat) (listed : Array Bool) (a : Act) (w : World), Cl md ops listed →
      (∀ j oj, ops[j]? = some oj → j ≠ i → listed.getD j true = false → (∀ e ∈ oj.after, Region.binds md e = true → e.on ≠ i) → oi.apart ops oj = true) →
      i ∈ Region.ready md ops listed → YieldsIf P ops (fun w' => St w' ∧ (dep = true → Pr w')) oi v a → StK k St Pr listed w →
      wpAnyS P md ops Q k St Pr fuel (listed.setIfInBounds i true) (a.put oi.dst v) w → wpAnyS P md ops Q k St Pr (fuel + 1) listed a w := by
  have hdone : ∀ (listed : Array Bool) (w : World), Cl md ops listed → i ∈ Region.ready md ops listed → StK k St Pr listed w → (St w ∧ (dep = true → Pr w)) := fun listed w hcl hr hS => by
    refine ⟨hS.1, fun hd => hS.2 ?_⟩
    subst hdep
    unfold waits at hd
    cases hok : ops[k]? with
    | none => rw [hok] at hd; cases hd
    | some ok =>
      rw [hok] at hd
      obtain ⟨e, he, hq⟩ := Array.any_eq_true'.1 hd
      simp only [Bool.and_eq_true, beq_iff_eq] at hq
      cases hl : listed.getD k false with
      | false => rfl
      | true =>
        have h1 := hcl k ok hok hl e he hq.1
        rw [hq.2] at h1
        have h0 := (mem_ready.1 hr).1
        rcases Nat.lt_or_ge i listed.size with h' | h'
        · simp [h'] at h0 h1; rw [h0] at h1; cases h1
        · simp [Array.getElem?_eq_none h'] at h1
  have hset : ∀ (listed : Array Bool) (w : World), StK k St Pr listed w → StK k St Pr (listed.setIfInBounds i true) w := fun listed w h => ⟨h.1, fun hk => h.2 (by rw [getD_set_ne false hik] at hk; exact hk)⟩
  intro fuel
  induction fuel with
  | zero =>
    intro listed a w hcl _ hr hy hS H
    refine ⟨fun h => (by rw [h] at hr; cases hr), fun j hj => ?_⟩
    by_cases hji : j = i
    · subst hji; exact YieldsIf.wpOp (S := fun w' => St w' ∧ (dep = true → Pr w')) hi hy (hdone _ _ hcl hr hS) ⟨hset _ _ hS, H⟩
    · have := ready_mono hj hji
      rw [H.1] at this
      cases this
  | succ fuel ih =>
    intro listed a w hcl hfree hr hy hS H
    refine ⟨fun h => (by rw [h] at hr; cases hr), fun j hj => ?_⟩
    by_cases hji : j = i
    · subst hji; exact YieldsIf.wpOp (S := fun w' => St w' ∧ (dep = true → Pr w')) hi hy (hdone _ _ hcl hr hS) ⟨hset _ _ hS, H⟩
    · have h1 := H.2 j (ready_mono hj hji)
      obtain ⟨hjun, oj, hoj, hall⟩ := mem_ready.1 hj
      have hnot : ∀ e ∈ oj.after, Region.binds md e = true → e.on ≠ i := fun e he hb heq => by
        have h1 := hall e he hb
        have h0 := (mem_ready.1 hr).1
        rw [heq] at h1
        rcases Nat.lt_or_ge i listed.size with h' | h'
        · simp [h'] at h0 h1; rw [h0] at h1; cases h1
        · simp [Array.getElem?_eq_none h'] at h1
      have h2 := wpOp_putIf hoj (hfree j oj hoj hji hjun hnot) (fun cs b => hsel i oi cs b hi) (fun cs b => hsel j oj cs b hoj) hQ hy h1
      have hfree' : ∀ k ok, ops[k]? = some ok → k ≠ i → (listed.setIfInBounds j true).getD k true = false →
          (∀ e ∈ ok.after, Region.binds md e = true → e.on ≠ i) → oi.apart ops ok = true := fun k ok hk hki hun hno => by
        refine hfree k ok hk hki ?_ hno
        by_cases hjk : j = k
        · subst hjk; exact hjun
        · rw [getD_set_ne true hjk] at hun; exact hun
      refine wpOp_mono (fun a' w' h3 => ?_) h2
      have hS' : StK k St Pr (listed.setIfInBounds j true) w' := ⟨h3.2.1.1, fun hk => h3.2.1.2 (by
        rw [Array.setIfInBounds_comm _ _ (Ne.symm hji), getD_set_ne false hik]; exact hk)⟩
      refine ⟨hS', ih (listed.setIfInBounds j true) a' w' (hcl.set hj) hfree' (ready_mono hr (Ne.symm hji)) h3.1 hS' ?_⟩
      rw [Array.setIfInBounds_comm _ _ hji]
      exact h3.2.2
theorem wpAnyS_take {i : Nat} {oi : Oper} {v : Value} {fuel : Nat} {listed : Array Bool} {a : Act} {w : World} (dep : Bool) (hi : ops[i]? = some oi)
    (hs : Region.noSelect ops = true) (hf : Region.free md ops listed i = true) (hr : (Region.ready md ops listed).contains i = true) (hcl : clB md ops listed = true) (hik : Nat.beq i k = false) (hdep : waits md ops k i = dep)
    (hQ : ∀ c a w, Q (.panic c) (a.put oi.dst v) w → Q (.panic c) a w) (hy : YieldsIf P ops (fun w' => St w' ∧ (dep = true → Pr w')) oi v a) (hS : StK k St Pr listed w)
    (h : StK k St Pr (listed.setIfInBounds i true) w → wpAnyS P md ops Q k St Pr fuel (listed.setIfInBounds i true) (a.put oi.dst v) w) : wpAnyS P md ops Q k St Pr (fuel + 1) listed a w := by
  have hne : i ≠ k := fun e => by subst e; simp at hik
  exact wpAnyS_first hi (Region.noSelect_spec hs) hQ hne dep hdep fuel listed a w (clB_spec hcl) (Region.free_spec hi hf) (by simpa using hr) hy hS (h ⟨hS.1, fun hk => hS.2 (by rw [getD_set_ne false hne] at hk; exact hk)⟩)
theorem wpAnyS_ready {i : Nat} {o : Oper} {fuel : Nat} {listed : Array Bool} {a : Act} {w : World} (hr : Region.ready md ops listed = [i]) (ho : ops[i]? = some o)
    (h : ∀ K : Act → World → Prop, Shut (∀ a w, StK k St Pr (listed.setIfInBounds i true) w → (StK k St Pr (listed.setIfInBounds i true) w → wpAnyS P md ops Q k St Pr fuel (listed.setIfInBounds i true) a w) → K a w) → if Region.wanted o (yielded ops a.tmps) = true then Oper.wp P o a w K Q else K (a.put o.dst undef) w) : wpAnyS P md ops Q k St Pr (fuel + 1) listed a w := by
  refine ⟨fun h0 => (by rw [hr] at h0; cases h0), fun j hj => ?_⟩
  rw [hr] at hj
  obtain rfl : j = i := by simpa using hj
  exact wpOp_step ho (fun K' hK => h K' (fun a w h1 h2 => hK a w ⟨h1, h2 h1⟩))
theorem wpAnyS_done {listed : Array Bool} {a : Act} {w : World} (hr : Region.ready md ops listed = []) (h : Q .normal a w) : ∀ fuel, wpAnyS P md ops Q k St Pr fuel listed a w
  | 0 => ⟨hr, h⟩
  | _ + 1 => ⟨fun _ => h, by rw [hr]; simp⟩
theorem wp_region_S {id : Nat} {a : Act} {w : World} (k : Nat) (St Pr : World → Prop) (hm : P.follows .mixedOrders = true) (hS : St w.drew) (hP : Pr w.drew)
    (h : StK k St Pr (Array.replicate ops.size false) w.drew → wpAnyS P .any ops Q k St Pr ops.size (Array.replicate ops.size false) a w.drew) : (Code.region id ops true).wp P Q a w :=
  wp_region_any hm (wpAny_of_S _ _ _ _ (h ⟨hS, fun _ => hP⟩))
end
end Go.Proofs.YtgjcopabmdbenaaGreat
