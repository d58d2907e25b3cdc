/- AR0 AR1 AR2 AR3 AE0, joined. -/
import Derived.Test.YtoenijflijfogaaRF27
import Derived.Test.YtoenijflijfogaaRF41
/- Layer 17: As; rows that are alike. -/
namespace Go.Proofs.Ytoenijflijfogaa
open Go.RowKit

/-- Nine cells in a row. -/
structure N9 (w : World) (b o : Nat) (v : Value) (f z c h l n x : Int) (p : Bool) : Prop where
  c0 : w.cell? ⟨b, o, none⟩ = some v
  c1 : w.cell? ⟨b, o + 1, none⟩ = some (.int .i64 f)
  c2 : w.cell? ⟨b, o + 2, none⟩ = some (.int .i64 z)
  c3 : w.cell? ⟨b, o + 3, none⟩ = some (.int .u64 c)
  c4 : w.cell? ⟨b, o + 4, none⟩ = some (.bool p)
  c5 : w.cell? ⟨b, o + 5, none⟩ = some (.int .i64 h)
  c6 : w.cell? ⟨b, o + 6, none⟩ = some (.int .u64 l)
  c7 : w.cell? ⟨b, o + 7, none⟩ = some (.int .i64 n)
  c8 : w.cell? ⟨b, o + 8, none⟩ = some (.int .i64 x)
  b : b < w.heap.size
theorem N9.below {w w' : World} {b o : Nat} {v : Value} {f z c h l n x : Int} {p : Bool} (k : N9 w b o v f z c h l n x p) (hb : Below w.heap.size w w') : N9 w' b o v f z c h l n x p :=
  ⟨(hb.cell (p := ⟨b, _, none⟩) k.b).trans k.c0, (hb.cell (p := ⟨b, _, none⟩) k.b).trans k.c1, (hb.cell (p := ⟨b, _, none⟩) k.b).trans k.c2, (hb.cell (p := ⟨b, _, none⟩) k.b).trans k.c3, (hb.cell (p := ⟨b, _, none⟩) k.b).trans k.c4, (hb.cell (p := ⟨b, _, none⟩) k.b).trans k.c5, (hb.cell (p := ⟨b, _, none⟩) k.b).trans k.c6, (hb.cell (p := ⟨b, _, none⟩) k.b).trans k.c7, (hb.cell (p := ⟨b, _, none⟩) k.b).trans k.c8, Nat.lt_of_lt_of_le k.b hb.size⟩
/-- A row's item, in memory. -/
theorem TReads.nine {w : World} {a : Option Addr} {n cap : Nat} {xs : List It} (h : TReads w (.slice a n cap) xs) {j : Nat} (hj : j < xs.length) {v : Value} {D : List ByteArray} {f : Int} {z : Nat} {g : Ag} (hx : xs[j] = ⟨v, D, f, z, g⟩) :
    ∃ b off, a = some ⟨b, off, none⟩ ∧ N9 w b (off + j * 9) v f z g.c (hi g.s) (lo g.s) g.mn g.mx g.o ∧ SReads w v D := by
  obtain ⟨b, off, ha, hb, hc, hs⟩ := h.at hj
  rw [hx] at hc hs
  exact ⟨b, off, ha, ⟨hc 0 (by decide), hc 1 (by decide), hc 2 (by decide), hc 3 (by decide), hc 4 (by decide), hc 5 (by decide), hc 6 (by decide), hc 7 (by decide), hc 8 (by decide), hb⟩, hs⟩
theorem TReads.form17 {w : World} {v : Value} {xs : List It} (h : TReads w v xs) : ∃ a cap, v = .slice a xs.length cap ∧ xs.length ≤ cap ∧ cap ≤ maxLen := by
  obtain ⟨a, cap, hv, h1, h2, _⟩ := h
  exact ⟨a, cap, hv, h1, h2⟩
end Go.Proofs.Ytoenijflijfogaa

/- Layer 17: the reference's Same, SameAll, of rows that are alike. -/
namespace Go.Proofs.Ytoenijflijfogaa
open Go.RowKit

end Go.Proofs.Ytoenijflijfogaa

/- Layer 17: queries. -/
namespace Go.Proofs.Ytoenijflijfogaa
open Go.RowKit Go.Joins Go.ChangeShapes Go.WideShapes Go.ChangeAt

/-- A query. -/
structure Qy where
  v : Value
  D : List ByteArray
  t : Int
  f : Int
  u : Int
  m : Int
def Qy.val (q : Qy) : Value := .agg #[q.v, .int .i64 q.t, .int .i64 q.f, .int .i64 q.u, .int .i64 q.m]
def In64 (x : Int) : Prop := -9223372036854775808 ≤ x ∧ x ≤ 9223372036854775807
structure QLies (q : Qy) (w : World) : Prop where
  r : SReads w q.v q.D
  t : In64 q.t
  f : In64 q.f
  u : In64 q.u
  m : In64 q.m
theorem QLies.below {q : Qy} {w w' : World} (h : QLies q w) (hb : Below w.heap.size w w') : QLies q w' := ⟨h.r.below hb, h.t, h.f, h.u, h.m⟩
theorem arr5 {cs : Array Value} (h : cs.size = 5) : ∃ c0 c1 c2 c3 c4, cs = #[c0, c1, c2, c3, c4] := by
  obtain ⟨l⟩ := cs
  match l, h with
  | [a, b, c, d, e], _ => exact ⟨a, b, c, d, e, rfl⟩
theorem celS17 : Try.prog.cellsOf 26 = 1 := by kernel_rfl
theorem celI17 : Try.prog.cellsOf 3 = 1 := by kernel_rfl
theorem cel617 : Try.prog.cellsOf 2 = 1 := by kernel_rfl
set_option maxRecDepth 100000 in
theorem openQy {H : Type} {enc : TypeId × Value → H} {W : World} {r : Reach} {b0 base : Nat} {spare : Nat → Bool} {held : Bool} {v : Value} {d : DataW H} {p : List MemPlace}
    (hv : Value.okWide Try.prog W r b0 28 v) (h : DataW.Trod enc Try.prog W base spare held 28 v d p) : ∃ q : Qy, v = q.val ∧ QLies q W := by
  obtain ⟨cs, rfl, hsz⟩ := okWide_struct Try.underlying28 hv
  obtain ⟨c0, c1, c2, c3, c4, rfl⟩ := arr5 (hsz.trans (by kernel_rfl))
  obtain ⟨fuel, hf⟩ := h
  obtain ⟨xs, n, _, _, _, hlen, hfs⟩ := DataW.trod_struct Try.underlying28 hf
  obtain ⟨y0, g0⟩ := some_of_len (i := 0) hlen (by decide)
  obtain ⟨y1, g1⟩ := some_of_len (i := 1) hlen (by decide)
  obtain ⟨y2, g2⟩ := some_of_len (i := 2) hlen (by decide)
  obtain ⟨y3, g3⟩ := some_of_len (i := 3) hlen (by decide)
  obtain ⟨y4, g4⟩ := some_of_len (i := 4) hlen (by decide)
  have e0 := (hfs 0 _ rfl).trans g0
  have e1 := (hfs 1 _ rfl).trans g1
  have e2 := (hfs 2 _ rfl).trans g2
  have e3 := (hfs 3 _ rfl).trans g3
  have e4 := (hfs 4 _ rfl).trans g4
  simp [celS17, Value.cells] at e0
  simp [cel617, Value.cells] at e1
  simp [cel617, Value.cells] at e2
  simp [cel617, Value.cells] at e3
  simp [celI17, Value.cells] at e4
  obtain ⟨D, hD⟩ := openS' e0
  obtain ⟨t, q1, _, w1⟩ := DataW.trod_int Try.underlying2 e1
  obtain ⟨f, q2, _, w2⟩ := DataW.trod_int Try.underlying2 e2
  obtain ⟨u, q3, _, w3⟩ := DataW.trod_int Try.underlying2 e3
  obtain ⟨m, q4, _, w4⟩ := DataW.trod_int Try.underlying3 e4
  simp at q1 q2 q3 q4
  subst q1 q2 q3 q4
  exact ⟨⟨c0, D, t, f, u, m⟩, rfl, hD, bounds_i64 w1, bounds_i64 w2, bounds_i64 w3, bounds_i64 w4⟩
end Go.Proofs.Ytoenijflijfogaa

/- Layer 17: one row of a slice of rows; AskRanges, plainly. -/
namespace Go.Proofs.Ytoenijflijfogaa
open Go.RowKit

end Go.Proofs.Ytoenijflijfogaa

/- Layer 17: AskEach, plainly. -/
namespace Go.Proofs.Ytoenijflijfogaa
open Go.RowKit

structure RwA (x : Rw) : Prop where
  m : mayB x.D = true
  f : 0 ≤ x.f ∧ x.f ≤ 1099511627776
  z : 1 ≤ x.z ∧ x.z ≤ 1099511627776
  a : Gd x.a
  c : x.a.c ≠ 0
  d : x.f % (x.z : Int) = 0
theorem rows_ok {R : Rl} {wm : Int} {L : List En} (hz : chkF R wm L = 0) (hc : ∀ x ∈ L, CnOk x.2) : ∀ x ∈ rowsE R wm L, RwA x := by
  intro x hx
  unfold rowsE at hx
  obtain ⟨y, hy, rfl⟩ := List.mem_map.1 hx
  obtain ⟨_, hR, _, _, _⟩ := chkF_ok hz
  obtain ⟨⟨hf, hg⟩, hk⟩ := folded_fit hz hc y hy
  obtain ⟨D, f, g, hr, hb⟩ := hf.k
  obtain ⟨h1, h2, h3, h4, h5⟩ := rdF_key hr
  have hs := (hR.2.2.2.1 g.toNat hb.gl).1
  unfold isS at hs
  simp only [Bool.and_eq_true, decide_eq_true_eq] at hs
  rw [rowE_of hr]
  have hm := hb.m
  refine ⟨h1, ⟨h2, h3⟩, ⟨?_, ?_⟩, hg, hf.c, ?_⟩
  · show 1 ≤ (R.sz g.toNat).toNat; omega
  · show (R.sz g.toNat).toNat ≤ 1099511627776; omega
  · show f % (((R.sz g.toNat).toNat : Nat) : Int) = 0
    rw [Int.toNat_of_nonneg (by omega)]; exact hm
end Go.Proofs.Ytoenijflijfogaa
