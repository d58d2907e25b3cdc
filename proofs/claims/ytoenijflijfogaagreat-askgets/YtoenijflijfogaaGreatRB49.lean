/- BR2 AR2 AR3, joined. -/
import Derived.Test.YtoenijflijfogaaGreatRB28
import Derived.Test.YtoenijflijfogaaGreatRB30
import Derived.Test.YtoenijflijfogaaGreatRB46
import Derived.Test.YtoenijflijfogaaGreatRB48
/- Layer 17: the reference's Scan. -/
namespace Go.Proofs.YtoenijflijfogaaGreat
open Go.RowKit

end Go.Proofs.YtoenijflijfogaaGreat

/- Layer 17: queries. -/
namespace Go.Proofs.YtoenijflijfogaaGreat
open Go.RowKit Go.Joins Go.ChangeShapes Go.WideShapes Go.ChangeAt

/-- A query. -/
structure Qy where
  v : Value
  D : List ByteArray
  t : Int
  f : Int
  u : Int
  m : Int
def Qy.val (q : Qy) : Value := .agg #[q.v, .int .i64 q.t, .int .i64 q.f, .int .i64 q.u, .int .i64 q.m]
def In64 (x : Int) : Prop := -9223372036854775808 ≤ x ∧ x ≤ 9223372036854775807
structure QLies (q : Qy) (w : World) : Prop where
  r : SReads w q.v q.D
  t : In64 q.t
  f : In64 q.f
  u : In64 q.u
  m : In64 q.m
theorem QLies.below {q : Qy} {w w' : World} (h : QLies q w) (hb : Below w.heap.size w w') : QLies q w' := ⟨h.r.below hb, h.t, h.f, h.u, h.m⟩
theorem arr5 {cs : Array Value} (h : cs.size = 5) : ∃ c0 c1 c2 c3 c4, cs = #[c0, c1, c2, c3, c4] := by
  obtain ⟨l⟩ := cs
  match l, h with
  | [a, b, c, d, e], _ => exact ⟨a, b, c, d, e, rfl⟩
theorem celS17 : Tryz.prog.cellsOf 26 = 1 := by kernel_rfl
theorem celI17 : Tryz.prog.cellsOf 3 = 1 := by kernel_rfl
theorem cel617 : Tryz.prog.cellsOf 2 = 1 := by kernel_rfl
set_option maxRecDepth 100000 in
theorem openQy {H : Type} {enc : TypeId × Value → H} {W : World} {r : Reach} {b0 base : Nat} {spare : Nat → Bool} {held : Bool} {v : Value} {d : DataW H} {p : List MemPlace}
    (hv : Value.okWide Tryz.prog W r b0 28 v) (h : DataW.Trod enc Tryz.prog W base spare held 28 v d p) : ∃ q : Qy, v = q.val ∧ QLies q W := by
  obtain ⟨cs, rfl, hsz⟩ := okWide_struct Tryz.underlying28 hv
  obtain ⟨c0, c1, c2, c3, c4, rfl⟩ := arr5 (hsz.trans (by kernel_rfl))
  obtain ⟨fuel, hf⟩ := h
  obtain ⟨xs, n, _, _, _, hlen, hfs⟩ := DataW.trod_struct Tryz.underlying28 hf
  obtain ⟨y0, g0⟩ := some_of_len (i := 0) hlen (by decide)
  obtain ⟨y1, g1⟩ := some_of_len (i := 1) hlen (by decide)
  obtain ⟨y2, g2⟩ := some_of_len (i := 2) hlen (by decide)
  obtain ⟨y3, g3⟩ := some_of_len (i := 3) hlen (by decide)
  obtain ⟨y4, g4⟩ := some_of_len (i := 4) hlen (by decide)
  have e0 := (hfs 0 _ rfl).trans g0
  have e1 := (hfs 1 _ rfl).trans g1
  have e2 := (hfs 2 _ rfl).trans g2
  have e3 := (hfs 3 _ rfl).trans g3
  have e4 := (hfs 4 _ rfl).trans g4
  simp [celS17, Value.cells] at e0
  simp [cel617, Value.cells] at e1
  simp [cel617, Value.cells] at e2
  simp [cel617, Value.cells] at e3
  simp [celI17, Value.cells] at e4
  obtain ⟨D, hD⟩ := openS' e0
  obtain ⟨t, q1, _, w1⟩ := DataW.trod_int Tryz.underlying2 e1
  obtain ⟨f, q2, _, w2⟩ := DataW.trod_int Tryz.underlying2 e2
  obtain ⟨u, q3, _, w3⟩ := DataW.trod_int Tryz.underlying2 e3
  obtain ⟨m, q4, _, w4⟩ := DataW.trod_int Tryz.underlying3 e4
  simp at q1 q2 q3 q4
  subst q1 q2 q3 q4
  exact ⟨⟨c0, D, t, f, u, m⟩, rfl, hD, bounds_i64 w1, bounds_i64 w2, bounds_i64 w3, bounds_i64 w4⟩
theorem fa1_reads {W : World} {b : Nat} {v : Value} {D : List ByteArray} {T : TypeId} (hv : SReads W v D) (hW : W.heap[b]? = some (.cells #[v, .int .i64 0, .int .i64 0] T)) : FReads W (.slice (some ⟨b, 0, none⟩) 1 1) [⟨v, D, 0, 0⟩] := by
  refine ⟨_, 1, rfl, Nat.le_refl _, (show 1 ≤ maxLen by decide), .inr ⟨b, 0, rfl, (Array.getElem?_eq_some_iff.1 hW).1, fun j hj => ?_⟩⟩
  have hj2 : j < 1 := hj
  match j, hj2 with
  | 0, _ =>
    refine ⟨fun i hi => ?_, hv, (show FaB ⟨v, D, 0, 0⟩ from ⟨show (-9223372036854775808 : Int) ≤ 0 by decide, show (0 : Int) ≤ 9223372036854775807 by decide, show (-9223372036854775808 : Int) ≤ 0 by decide, show (0 : Int) ≤ 9223372036854775807 by decide⟩)⟩
    rw [Go.Joins.cell_of_block hW]
    match i, hi with
    | 0, _ => rfl
    | 1, _ => rfl
    | 2, _ => rfl
set_option maxRecDepth 100000 in
set_option maxHeartbeats 2000000 in
theorem long17_any (v : Value) (D : List ByteArray) (t f u m : Int) (w : World) (hD : SReads w v D) :
    Calls Tryz.prog 8 #[.agg #[v, .int .i64 t, .int .i64 f, .int .i64 u, .int .i64 m]] w fun e w' => ∃ g : Bool, e = .returned (.bool g) ∧ Below w.heap.size w w' := by
  obtain ⟨a, c, rfl, -⟩ := hD.form
  obtain ⟨w1, HW1⟩ := hid_ex ((w.alloc (.cells #[.slice a D.length c, .int .i64 t, .int .i64 f, .int .i64 u, .int .i64 m] 28)).alloc (.cells #[.slice a D.length c, .int .i64 0, .int .i64 0] 63))
  have hb1 : Below w.heap.size w w1 := by rw [HW1.out]; exact ((Below.refl _ _).alloc (Nat.le_refl _) _).alloc (by simp) _
  have hY : w1.heap[w.heap.size + 1]? = some (.cells #[.slice a D.length c, .int .i64 0, .int .i64 0] 63) := by
    rw [HW1.out]
    have := heap_alloc_new (w.alloc (.cells #[.slice a D.length c, .int .i64 t, .int .i64 f, .int .i64 u, .int .i64 m] 28)) (.cells #[.slice a D.length c, .int .i64 0, .int .i64 0] 63)
    rw [World.size_alloc] at this; exact this
  have HF : Hid (FReads w1 (.slice (some ⟨w.heap.size + 1, 0, none⟩) 1 1) [⟨.slice a D.length c, D, 0, 0⟩]) := fa1_reads (hD.below hb1) hY
  have HB1 : Hid (Below w.heap.size w w1) := hb1
  clear hD hb1 hY
  go_enter Tryz.func8, Tryz.ntmps8
  go_wp2_with fail
  rw [← HW1.out]
  refine (many15_any _ _ w1 HF.out).mono ?_
  rintro e w2 ⟨g, rfl, -, hw2⟩
  have HB2 : Hid (Below w.heap.size w w2) := by rw [hw2]; exact HB1.out
  clear hw2 HW1
  go_wp2_with fail
  go_ret
  exact ⟨g, rfl, HB2.out⟩
end Go.Proofs.YtoenijflijfogaaGreat

/- Layer 17: one row of a slice of rows; AskRanges, plainly. -/
namespace Go.Proofs.YtoenijflijfogaaGreat
open Go.RowKit

end Go.Proofs.YtoenijflijfogaaGreat
