/- AR0 AR1 AR2 AR3 AE0, joined. -/
import Derived.Test.YtoenijflijfogaaGreatRH28
import Derived.Test.YtoenijflijfogaaGreatRH42
/- Layer 17: As; rows that are alike. -/
namespace Go.Proofs.YtoenijflijfogaaGreat
open Go.RowKit

/-- Nine cells in a row. -/
structure N9 (w : World) (b o : Nat) (v : Value) (f z c h l n x : Int) (p : Bool) : Prop where
  c0 : w.cell? ⟨b, o, none⟩ = some v
  c1 : w.cell? ⟨b, o + 1, none⟩ = some (.int .i64 f)
  c2 : w.cell? ⟨b, o + 2, none⟩ = some (.int .i64 z)
  c3 : w.cell? ⟨b, o + 3, none⟩ = some (.int .u64 c)
  c4 : w.cell? ⟨b, o + 4, none⟩ = some (.bool p)
  c5 : w.cell? ⟨b, o + 5, none⟩ = some (.int .i64 h)
  c6 : w.cell? ⟨b, o + 6, none⟩ = some (.int .u64 l)
  c7 : w.cell? ⟨b, o + 7, none⟩ = some (.int .i64 n)
  c8 : w.cell? ⟨b, o + 8, none⟩ = some (.int .i64 x)
  b : b < w.heap.size
theorem N9.below {w w' : World} {b o : Nat} {v : Value} {f z c h l n x : Int} {p : Bool} (k : N9 w b o v f z c h l n x p) (hb : Below w.heap.size w w') : N9 w' b o v f z c h l n x p :=
  ⟨(hb.cell (p := ⟨b, _, none⟩) k.b).trans k.c0, (hb.cell (p := ⟨b, _, none⟩) k.b).trans k.c1, (hb.cell (p := ⟨b, _, none⟩) k.b).trans k.c2, (hb.cell (p := ⟨b, _, none⟩) k.b).trans k.c3, (hb.cell (p := ⟨b, _, none⟩) k.b).trans k.c4, (hb.cell (p := ⟨b, _, none⟩) k.b).trans k.c5, (hb.cell (p := ⟨b, _, none⟩) k.b).trans k.c6, (hb.cell (p := ⟨b, _, none⟩) k.b).trans k.c7, (hb.cell (p := ⟨b, _, none⟩) k.b).trans k.c8, Nat.lt_of_lt_of_le k.b hb.size⟩
/-- A row's item, in memory. -/
theorem TReads.nine {w : World} {a : Option Addr} {n cap : Nat} {xs : List It} (h : TReads w (.slice a n cap) xs) {j : Nat} (hj : j < xs.length) {v : Value} {D : List ByteArray} {f : Int} {z : Nat} {g : Ag} (hx : xs[j] = ⟨v, D, f, z, g⟩) :
    ∃ b off, a = some ⟨b, off, none⟩ ∧ N9 w b (off + j * 9) v f z g.c (hi g.s) (lo g.s) g.mn g.mx g.o ∧ SReads w v D := by
  obtain ⟨b, off, ha, hb, hc, hs⟩ := h.at hj
  rw [hx] at hc hs
  exact ⟨b, off, ha, ⟨hc 0 (by decide), hc 1 (by decide), hc 2 (by decide), hc 3 (by decide), hc 4 (by decide), hc 5 (by decide), hc 6 (by decide), hc 7 (by decide), hc 8 (by decide), hb⟩, hs⟩
theorem TReads.form17 {w : World} {v : Value} {xs : List It} (h : TReads w v xs) : ∃ a cap, v = .slice a xs.length cap ∧ xs.length ≤ cap ∧ cap ≤ maxLen := by
  obtain ⟨a, cap, hv, h1, h2, _⟩ := h
  exact ⟨a, cap, hv, h1, h2⟩
end Go.Proofs.YtoenijflijfogaaGreat

/- Layer 17: the reference's Same, SameAll, of rows that are alike. -/
namespace Go.Proofs.YtoenijflijfogaaGreat
open Go.RowKit

end Go.Proofs.YtoenijflijfogaaGreat

/- Layer 17: queries. -/
namespace Go.Proofs.YtoenijflijfogaaGreat
open Go.RowKit Go.Joins Go.ChangeShapes Go.WideShapes Go.ChangeAt

/-- A query. -/
structure Qy where
  v : Value
  D : List ByteArray
  t : Int
  f : Int
  u : Int
  m : Int
def Qy.val (q : Qy) : Value := .agg #[q.v, .int .i64 q.t, .int .i64 q.f, .int .i64 q.u, .int .i64 q.m]
def In64 (x : Int) : Prop := -9223372036854775808 ≤ x ∧ x ≤ 9223372036854775807
structure QLies (q : Qy) (w : World) : Prop where
  r : SReads w q.v q.D
  t : In64 q.t
  f : In64 q.f
  u : In64 q.u
  m : In64 q.m
theorem QLies.below {q : Qy} {w w' : World} (h : QLies q w) (hb : Below w.heap.size w w') : QLies q w' := ⟨h.r.below hb, h.t, h.f, h.u, h.m⟩
theorem arr5 {cs : Array Value} (h : cs.size = 5) : ∃ c0 c1 c2 c3 c4, cs = #[c0, c1, c2, c3, c4] := by
  obtain ⟨l⟩ := cs
  match l, h with
  | [a, b, c, d, e], _ => exact ⟨a, b, c, d, e, rfl⟩
theorem celS17 : Tryz.prog.cellsOf 26 = 1 := by kernel_rfl
theorem celI17 : Tryz.prog.cellsOf 3 = 1 := by kernel_rfl
theorem cel617 : Tryz.prog.cellsOf 2 = 1 := by kernel_rfl
set_option maxRecDepth 100000 in
theorem openQy {H : Type} {enc : TypeId × Value → H} {W : World} {r : Reach} {b0 base : Nat} {spare : Nat → Bool} {held : Bool} {v : Value} {d : DataW H} {p : List MemPlace}
    (hv : Value.okWide Tryz.prog W r b0 28 v) (h : DataW.Trod enc Tryz.prog W base spare held 28 v d p) : ∃ q : Qy, v = q.val ∧ QLies q W := by
  obtain ⟨cs, rfl, hsz⟩ := okWide_struct Tryz.underlying28 hv
  obtain ⟨c0, c1, c2, c3, c4, rfl⟩ := arr5 (hsz.trans (by kernel_rfl))
  obtain ⟨fuel, hf⟩ := h
  obtain ⟨xs, n, _, _, _, hlen, hfs⟩ := DataW.trod_struct Tryz.underlying28 hf
  obtain ⟨y0, g0⟩ := some_of_len (i := 0) hlen (by decide)
  obtain ⟨y1, g1⟩ := some_of_len (i := 1) hlen (by decide)
  obtain ⟨y2, g2⟩ := some_of_len (i := 2) hlen (by decide)
  obtain ⟨y3, g3⟩ := some_of_len (i := 3) hlen (by decide)
  obtain ⟨y4, g4⟩ := some_of_len (i := 4) hlen (by decide)
  have e0 := (hfs 0 _ rfl).trans g0
  have e1 := (hfs 1 _ rfl).trans g1
  have e2 := (hfs 2 _ rfl).trans g2
  have e3 := (hfs 3 _ rfl).trans g3
  have e4 := (hfs 4 _ rfl).trans g4
  simp [celS17, Value.cells] at e0
  simp [cel617, Value.cells] at e1
  simp [cel617, Value.cells] at e2
  simp [cel617, Value.cells] at e3
  simp [celI17, Value.cells] at e4
  obtain ⟨D, hD⟩ := openS' e0
  obtain ⟨t, q1, _, w1⟩ := DataW.trod_int Tryz.underlying2 e1
  obtain ⟨f, q2, _, w2⟩ := DataW.trod_int Tryz.underlying2 e2
  obtain ⟨u, q3, _, w3⟩ := DataW.trod_int Tryz.underlying2 e3
  obtain ⟨m, q4, _, w4⟩ := DataW.trod_int Tryz.underlying3 e4
  simp at q1 q2 q3 q4
  subst q1 q2 q3 q4
  exact ⟨⟨c0, D, t, f, u, m⟩, rfl, hD, bounds_i64 w1, bounds_i64 w2, bounds_i64 w3, bounds_i64 w4⟩
theorem fa1_reads {W : World} {b : Nat} {v : Value} {D : List ByteArray} {T : TypeId} (hv : SReads W v D) (hW : W.heap[b]? = some (.cells #[v, .int .i64 0, .int .i64 0] T)) : FReads W (.slice (some ⟨b, 0, none⟩) 1 1) [⟨v, D, 0, 0⟩] := by
  refine ⟨_, 1, rfl, Nat.le_refl _, (show 1 ≤ maxLen by decide), .inr ⟨b, 0, rfl, (Array.getElem?_eq_some_iff.1 hW).1, fun j hj => ?_⟩⟩
  have hj2 : j < 1 := hj
  match j, hj2 with
  | 0, _ =>
    refine ⟨fun i hi => ?_, hv, (show FaB ⟨v, D, 0, 0⟩ from ⟨show (-9223372036854775808 : Int) ≤ 0 by decide, show (0 : Int) ≤ 9223372036854775807 by decide, show (-9223372036854775808 : Int) ≤ 0 by decide, show (0 : Int) ≤ 9223372036854775807 by decide⟩)⟩
    rw [Go.Joins.cell_of_block hW]
    match i, hi with
    | 0, _ => rfl
    | 1, _ => rfl
    | 2, _ => rfl
set_option maxRecDepth 100000 in
set_option maxHeartbeats 2000000 in
theorem long17_any (v : Value) (D : List ByteArray) (t f u m : Int) (w : World) (hD : SReads w v D) :
    Calls Tryz.prog 8 #[.agg #[v, .int .i64 t, .int .i64 f, .int .i64 u, .int .i64 m]] w fun e w' => ∃ g : Bool, e = .returned (.bool g) ∧ Below w.heap.size w w' := by
  obtain ⟨a, c, rfl, -⟩ := hD.form
  obtain ⟨w1, HW1⟩ := hid_ex ((w.alloc (.cells #[.slice a D.length c, .int .i64 t, .int .i64 f, .int .i64 u, .int .i64 m] 28)).alloc (.cells #[.slice a D.length c, .int .i64 0, .int .i64 0] 63))
  have hb1 : Below w.heap.size w w1 := by rw [HW1.out]; exact ((Below.refl _ _).alloc (Nat.le_refl _) _).alloc (by simp) _
  have hY : w1.heap[w.heap.size + 1]? = some (.cells #[.slice a D.length c, .int .i64 0, .int .i64 0] 63) := by
    rw [HW1.out]
    have := heap_alloc_new (w.alloc (.cells #[.slice a D.length c, .int .i64 t, .int .i64 f, .int .i64 u, .int .i64 m] 28)) (.cells #[.slice a D.length c, .int .i64 0, .int .i64 0] 63)
    rw [World.size_alloc] at this; exact this
  have HF : Hid (FReads w1 (.slice (some ⟨w.heap.size + 1, 0, none⟩) 1 1) [⟨.slice a D.length c, D, 0, 0⟩]) := fa1_reads (hD.below hb1) hY
  have HB1 : Hid (Below w.heap.size w w1) := hb1
  clear hD hb1 hY
  go_enter Tryz.func8, Tryz.ntmps8
  go_wp2_with fail
  rw [← HW1.out]
  refine (many15_any _ _ w1 HF.out).mono ?_
  rintro e w2 ⟨g, rfl, -, hw2⟩
  have HB2 : Hid (Below w.heap.size w w2) := by rw [hw2]; exact HB1.out
  clear hw2 HW1
  go_wp2_with fail
  go_ret
  exact ⟨g, rfl, HB2.out⟩
end Go.Proofs.YtoenijflijfogaaGreat

/- Layer 17: one row of a slice of rows; AskRanges, plainly. -/
namespace Go.Proofs.YtoenijflijfogaaGreat
open Go.RowKit

end Go.Proofs.YtoenijflijfogaaGreat

/- Layer 17: AskEach, plainly. -/
namespace Go.Proofs.YtoenijflijfogaaGreat
open Go.RowKit

/-- Is a time of these dimensions in a row? -/
def mtc (D : List ByteArray) (t : Int) (x : Rw) : Prop := x.D = D ∧ x.f ≤ t ∧ t < x.f + x.z
structure RwA (x : Rw) : Prop where
  m : mayB x.D = true
  f : 0 ≤ x.f ∧ x.f ≤ 1099511627776
  z : 1 ≤ x.z ∧ x.z ≤ 1099511627776
  a : Gd x.a
  c : x.a.c ≠ 0
  d : x.f % (x.z : Int) = 0
theorem rows_ok {R : Rl} {wm : Int} {L : List En} (hz : chkF R wm L = 0) (hc : ∀ x ∈ L, CnOk x.2) : ∀ x ∈ rowsE R wm L, RwA x := by
  intro x hx
  unfold rowsE at hx
  obtain ⟨y, hy, rfl⟩ := List.mem_map.1 hx
  obtain ⟨_, hR, _, _, _⟩ := chkF_ok hz
  obtain ⟨⟨hf, hg⟩, hk⟩ := folded_fit hz hc y hy
  obtain ⟨D, f, g, hr, hb⟩ := hf.k
  obtain ⟨h1, h2, h3, h4, h5⟩ := rdF_key hr
  have hs := (hR.2.2.2.1 g.toNat hb.gl).1
  unfold isS at hs
  simp only [Bool.and_eq_true, decide_eq_true_eq] at hs
  rw [rowE_of hr]
  have hm := hb.m
  refine ⟨h1, ⟨h2, h3⟩, ⟨?_, ?_⟩, hg, hf.c, ?_⟩
  · show 1 ≤ (R.sz g.toNat).toNat; omega
  · show (R.sz g.toNat).toNat ≤ 1099511627776; omega
  · show f % (((R.sz g.toNat).toNat : Nat) : Int) = 0
    rw [Int.toNat_of_nonneg (by omega)]; exact hm
theorem mrg_le {a b : Ag} (ha : Gd a) (hb : Gd b) : a.c ≤ (mrg a b).c ∧ b.c ≤ (mrg a b).c := by
  have c1 := ha.c
  have c2 := hb.c
  unfold CnOk at c1 c2
  by_cases h1 : a.c = 0
  · have e : mrg a b = b := by unfold mrg; rw [if_pos h1]
    rw [e]; omega
  · by_cases h2 : b.c = 0
    · have e : mrg a b = a := by unfold mrg; rw [if_neg h1, if_pos h2]
      rw [e]; omega
    · rw [mrg_both a b h1 h2]
      show a.c ≤ cntF a.c b.c ∧ b.c ≤ cntF a.c b.c
      unfold cntF
      split <;> omega
/-- What the fold of Get tells of each row that has the time. -/
theorem getS_all {D : List ByteArray} {t : Int} : ∀ (l : List Rw) (r : Rw), (∀ x ∈ l, RwA x) → Gd r.a →
    Gd (l.foldl (getS D t) r).a ∧ r.a.c ≤ (l.foldl (getS D t) r).a.c ∧ r.z ≤ (l.foldl (getS D t) r).z ∧ (∀ y ∈ l, mtc D t y → y.z ≤ (l.foldl (getS D t) r).z ∧ y.a.c ≤ (l.foldl (getS D t) r).a.c) ∧
      (((l.foldl (getS D t) r).z = r.z ∧ (l.foldl (getS D t) r).f = r.f) ∨ ∃ y ∈ l, mtc D t y ∧ (l.foldl (getS D t) r).z = y.z ∧ (l.foldl (getS D t) r).f = y.f)
  | [], r, _, hr => ⟨hr, Int.le_refl _, Nat.le_refl _, (fun y hy => by cases hy), .inl ⟨rfl, rfl⟩⟩
  | x :: l, r, hl, hr => by
    have hx := hl x (List.mem_cons_self ..)
    have hl' : ∀ x ∈ l, RwA x := fun y hy => hl y (List.mem_cons_of_mem _ hy)
    rw [List.foldl_cons]
    by_cases hm : x.D = D ∧ x.f ≤ t ∧ t < x.f + x.z
    · have hg := hr.mrg hx.a
      obtain ⟨m1, m2⟩ := mrg_le hr hx.a
      by_cases hz : r.z < x.z
      · rw [getS_big hm hz]
        obtain ⟨i1, i2, i3, i4, i5⟩ := getS_all l ⟨x.D, x.f, x.z, mrg r.a x.a⟩ hl' hg
        simp only at i2 i3 i5
        refine ⟨i1, by omega, by omega, fun y hy hy2 => ?_, ?_⟩
        · rcases List.mem_cons.1 hy with rfl | hy
          · exact ⟨i3, by omega⟩
          · exact i4 y hy hy2
        · rcases i5 with ⟨h1, h2⟩ | ⟨y, hy, h1, h2, h3⟩
          · exact .inr ⟨x, List.mem_cons_self .., hm, h1, h2⟩
          · exact .inr ⟨y, List.mem_cons_of_mem _ hy, h1, h2, h3⟩
      · rw [getS_old hm hz]
        obtain ⟨i1, i2, i3, i4, i5⟩ := getS_all l ⟨r.D, r.f, r.z, mrg r.a x.a⟩ hl' hg
        simp only at i2 i3 i5
        refine ⟨i1, by omega, by omega, fun y hy hy2 => ?_, ?_⟩
        · rcases List.mem_cons.1 hy with rfl | hy
          · exact ⟨by omega, by omega⟩
          · exact i4 y hy hy2
        · rcases i5 with ⟨h1, h2⟩ | ⟨y, hy, h1, h2, h3⟩
          · exact .inl ⟨h1, h2⟩
          · exact .inr ⟨y, List.mem_cons_of_mem _ hy, h1, h2, h3⟩
    · rw [getS_no hm]
      obtain ⟨i1, i2, i3, i4, i5⟩ := getS_all l r hl' hr
      refine ⟨i1, i2, i3, fun y hy hy2 => ?_, ?_⟩
      · rcases List.mem_cons.1 hy with rfl | hy
        · exact absurd hy2 hm
        · exact i4 y hy hy2
      · rcases i5 with h | ⟨y, hy, h1, h2, h3⟩
        · exact .inl h
        · exact .inr ⟨y, List.mem_cons_of_mem _ hy, h1, h2, h3⟩
theorem get_all {D : List ByteArray} {t : Int} {l : List Rw} (hl : ∀ x ∈ l, RwA x) :
    (∀ y ∈ l, mtc D t y → y.z ≤ (getF D t l).z ∧ y.a.c ≤ (getF D t l).a.c) ∧ (0 < (getF D t l).z → ∃ y ∈ l, mtc D t y ∧ (getF D t l).z = y.z ∧ (getF D t l).f = y.f) := by
  obtain ⟨_, _, _, h4, h5⟩ := getS_all (D := D) (t := t) l rwZ hl Gd.zero
  refine ⟨h4, fun h => ?_⟩
  rcases h5 with ⟨h6, _⟩ | h6
  · have h7 : (getF D t l).z = 0 := h6
    omega
  · exact h6
/-- A row is got by its dimensions and its From. -/
theorem get_each {l : List Rw} (hl : ∀ x ∈ l, RwA x) {x : Rw} (hx : x ∈ l) : 0 < (getF x.D x.f l).z ∧ x.a.c ≤ (getF x.D x.f l).a.c ∧ x.z ≤ (getF x.D x.f l).z ∧ (getF x.D x.f l).f ≤ x.f ∧ (x.z = (getF x.D x.f l).z → (getF x.D x.f l).f = x.f) := by
  have ok := hl x hx
  have hz := ok.z.1
  obtain ⟨h1, h2⟩ := get_all (D := x.D) (t := x.f) hl
  obtain ⟨h3, h4⟩ := h1 x hx ⟨rfl, Int.le_refl _, by omega⟩
  obtain ⟨y, hy, ⟨q1, q2, q3⟩, q4, q5⟩ := h2 (by omega)
  refine ⟨by omega, h4, h3, by omega, fun e => ?_⟩
  have oy := (hl y hy).d
  have ox := ok.d
  have hyz : y.z = x.z := by omega
  rw [hyz] at oy q3
  rw [q5]
  have e1 : y.f = x.z * (y.f / x.z) := by have := Int.mul_ediv_add_emod y.f x.z; omega
  have e2 : x.f = x.z * (x.f / x.z) := by have := Int.mul_ediv_add_emod x.f x.z; omega
  have e3 : y.f / (x.z : Int) = x.f / (x.z : Int) := by
    rw [e1] at q2 q3
    rw [e2] at q2 q3
    have hp : (0 : Int) < (x.z : Int) := by omega
    have a1 : (x.z : Int) * (y.f / x.z) ≤ x.z * (x.f / x.z) := q2
    have a2 : (x.z : Int) * (x.f / x.z) < x.z * (y.f / x.z + 1) := by rw [Int.mul_add, Int.mul_one]; exact q3
    have b1 := Int.le_of_mul_le_mul_left a1 hp
    have b2 := Int.lt_of_mul_lt_mul_left a2 (by omega)
    omega
  rw [e1, e2, e3]
def inB (D : List ByteArray) (t : Int) (x : Rw) : Bool := decide (x.D = D ∧ x.f ≤ t ∧ t - x.f < x.z)
def inF (D : List ByteArray) (t : Int) (l : List Rw) : Bool := l.any (inB D t)
theorem inF_snoc {D : List ByteArray} {t : Int} {l : List Rw} {k : Nat} (hk : k < l.length) : inF D t (l.take (k + 1)) = (inF D t (l.take k) || inB D t l[k]) := by
  unfold inF
  rw [List.take_succ_eq_append_getElem hk, List.any_append]
  simp
/-- A time is got if it is in a row. -/
theorem get_in {l : List Rw} (hl : ∀ x ∈ l, RwA x) {D : List ByteArray} {t : Int} (ht : t < 1099511627776) : decide (0 < (getF D t l).z) = inF D t (scanF [] 0 1099511627776 l) := by
  obtain ⟨h1, h2⟩ := get_all (D := D) (t := t) hl
  rw [Bool.eq_iff_iff, decide_eq_true_iff]
  unfold inF
  rw [List.any_eq_true]
  constructor
  · intro h
    obtain ⟨y, hy, ⟨q1, q2, q3⟩, _⟩ := h2 h
    refine ⟨y, ?_, decide_eq_true ⟨q1, q2, by omega⟩⟩
    unfold scanF
    refine List.mem_filter.2 ⟨hy, ?_⟩
    have := (hl y hy).f.1
    simp
    omega
  · rintro ⟨y, hy, hq⟩
    unfold scanF at hy
    have hy' := (List.mem_filter.1 hy).1
    unfold inB at hq
    simp only [decide_eq_true_eq] at hq
    have := (h1 y hy' ⟨hq.1, hq.2.1, by omega⟩).1
    have := (hl y hy').z.1
    omega
end Go.Proofs.YtoenijflijfogaaGreat
