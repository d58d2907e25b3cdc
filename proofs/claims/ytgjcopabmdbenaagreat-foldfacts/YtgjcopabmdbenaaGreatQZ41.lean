/- R1g OR FA0 FL17 FL18, joined. -/
import Derived.Test.YtgjcopabmdbenaaGreatQZ17
import Derived.Test.YtgjcopabmdbenaaGreatQZ40
import Derived.Test.YtgjcopabmdbenaaGreatRows
import Derived.WalkKit
import Derived.ProofKit
import Derived.OpenShut
import Derived.Lib.SmallJoins
import Derived.Deep.SlicePairs
/- A cell that is there lies in a block that is there. -/
namespace Go.Proofs.YtgjcopabmdbenaaGreat
open Go.RowKit
end Go.Proofs.YtgjcopabmdbenaaGreat

/- Rules, as an argument by value: the value written out, and where the steps lie. -/
namespace Go.Proofs.YtgjcopabmdbenaaGreat
open Go.ChangeShapes Go.WideShapes Go.ChangeAt Go.RowKit Go.Joins Go.Deep

set_option maxRecDepth 100000 in
theorem openR {H : Type} {enc : TypeId × Value → H} {W : World} {r : Reach} {b0 base : Nat} {spare : Nat → Bool} {held : Bool} {v : Value} {d : DataW H} {p : List MemPlace}
    (hv : Value.okWide Tryz.prog W r b0 24 v) (h : DataW.Trod enc Tryz.prog W base spare held 24 v d p) :
    ∃ R : Rl, v = .agg #[.slice R.a R.len R.cap, .int .i64 R.kp] ∧ Lies R W.heap.size W := by
  obtain ⟨v0, v1, y0, y1, n, rfl, _, _, h0, h1⟩ := open_agg2 Tryz.underlying24 (by kernel_rfl) (by kernel_rfl) hv h
  obtain ⟨kp, e1, _, _⟩ := DataW.trod_int Tryz.underlying2 h1
  simp at e1
  subst e1
  rcases open_slice_pairs Tryz.underlying22 Tryz.underlying53 (by kernel_rfl) rfl rfl (by kernel_rfl) (by kernel_rfl) h0 with ⟨hcs, _⟩ | ⟨a, len, cap, m, k, V0, V1, D0, D1, P0, P1, hcs, _, hl, hm, hmm, _, hx⟩
  · simp at hcs
    subst hcs
    exact ⟨⟨none, 0, 0, fun _ => 0, fun _ => 0, kp⟩, rfl, Nat.zero_le _, Nat.le_refl _, .inl rfl⟩
  · simp at hcs
    subst hcs
    have hlm : len ≤ m := by rw [hmm]; split <;> omega
    have ints : ∀ i, i < m → ∃ x y, V0 i = .int .i64 x ∧ V1 i = .int .i64 y := by
      intro i hi
      obtain ⟨_, _, g0, g1⟩ := hx i hi
      obtain ⟨x, q0, _, _⟩ := DataW.trod_int Tryz.underlying2 g0
      obtain ⟨y, q1, _, _⟩ := DataW.trod_int Tryz.underlying2 g1
      simp at q0 q1
      exact ⟨x, y, q0, q1⟩
    let f : Nat → Int := fun i => intOf (V0 i)
    let g : Nat → Int := fun i => intOf (V1 i)
    refine ⟨⟨some a, len, cap, f, g, kp⟩, rfl, by show len ≤ maxLen; omega, Nat.le_refl _, ?_⟩
    rcases Nat.eq_zero_or_pos len with h00 | h00
    · exact .inl h00
    · right
      obtain ⟨c0, _, _, _⟩ := hx 0 (by omega)
      have e0 : a.add (0 * 2) = a := by simp [Addr.add]
      rw [e0] at c0
      obtain ⟨hb, hs⟩ := cell_block c0
      obtain ⟨b, off, spot⟩ := a
      simp only at hb hs
      subst hs
      refine ⟨b, off, rfl, hb, fun i hi => ?_⟩
      have hi' : i < len := hi
      obtain ⟨x, y, q0, q1⟩ := ints i (by omega)
      obtain ⟨d0, d1, _, _⟩ := hx i (by omega)
      have ea : (⟨b, off, none⟩ : Addr).add (i * 2) = ⟨b, off + i * 2, none⟩ := by simp [Addr.add]
      have eb : (⟨b, off, none⟩ : Addr).add (i * 2 + 1) = ⟨b, off + i * 2 + 1, none⟩ := by simp [Addr.add]; omega
      rw [ea] at d0
      rw [eb] at d1
      refine ⟨?_, ?_⟩
      · rw [d0, q0]; show _ = some (Value.int .i64 (intOf (V0 i))); rw [q0]; rfl
      · rw [d1, q1]; show _ = some (Value.int .i64 (intOf (V1 i))); rw [q1]; rfl
end Go.Proofs.YtgjcopabmdbenaaGreat

/- Entries and facts as arguments; what the laws of fold ask of its contracts. -/
namespace Go.Proofs.YtgjcopabmdbenaaGreat
open Go.ChangeShapes Go.WideShapes Go.ChangeAt Go.RowKit Go.Joins

set_option maxRecDepth 100000 in
theorem openE {H : Type} {enc : TypeId × Value → H} {W : World} {r : Reach} {b0 base : Nat} {spare : Nat → Bool} {held : Bool} {v : Value} {d : DataW H} {p : List MemPlace}
    (hv : Value.okWide Tryz.prog W r b0 28 v) (h : DataW.Trod enc Tryz.prog W base spare held 28 v d p) : ∃ L : List En, EReads W v L := by
  obtain ⟨a, len, cap, rfl⟩ := okWide_slice Tryz.underlying28 hv
  obtain ⟨fuel, hf⟩ := h
  obtain ⟨v', L, hcs, hr⟩ := openEs (fuel := fuel) (by simpa [Value.cells] using hf)
  simp at hcs
  subst hcs
  exact ⟨L, hr⟩
theorem threeF {α : Type} : ∀ {l : List α}, l.length = 3 → ∃ c0 c1 c2, l = [c0, c1, c2]
  | [c0, c1, c2], _ => ⟨c0, c1, c2, rfl⟩
theorem cellsS : Tryz.prog.cellsOf 34 = 1 := by kernel_rfl
set_option maxRecDepth 100000 in
theorem openF' {H : Type} {enc : TypeId × Value → H} {W : World} {base : Nat} {spare : Nat → Bool} {held : Bool} {c0 c1 c2 : Value} {x : DataW H × List MemPlace} {fuel : Nat}
    (hf : DataW.trod enc Tryz.prog W base spare held fuel 36 [c0, c1, c2] = some x) : ∃ f : Fa, [c0, c1, c2] = c3 f ∧ SReads W f.v f.D ∧ FaB f := by
  obtain ⟨xs, n, _, _, _, hlen, hfs⟩ := DataW.trod_struct Tryz.underlying36 hf
  obtain ⟨y0, g0⟩ := some_of_len (i := 0) hlen (by decide)
  obtain ⟨y1, g1⟩ := some_of_len (i := 1) hlen (by decide)
  obtain ⟨y2, g2⟩ := some_of_len (i := 2) hlen (by decide)
  have e0 := (hfs 0 _ rfl).trans g0
  have e1 := (hfs 1 _ rfl).trans g1
  have e2 := (hfs 2 _ rfl).trans g2
  simp [cellsS] at e0
  simp [cells64] at e1
  simp [cells64] at e2
  obtain ⟨D, hD⟩ := openS' e0
  obtain ⟨t, q1, _, w1⟩ := DataW.trod_int Tryz.underlying2 e1
  obtain ⟨v, q2, _, w2⟩ := DataW.trod_int Tryz.underlying2 e2
  simp at q1 q2
  subst q1 q2
  have b1 := bounds_i64 w1
  have b2 := bounds_i64 w2
  exact ⟨⟨c0, D, t, v⟩, rfl, hD, b1.1, b1.2, b2.1, b2.2⟩
set_option maxRecDepth 100000 in
theorem openF {H : Type} {enc : TypeId × Value → H} {W : World} {r : Reach} {b0 base : Nat} {spare : Nat → Bool} {held : Bool} {v : Value} {d : DataW H} {p : List MemPlace}
    (hv : Value.okWide Tryz.prog W r b0 25 v) (h : DataW.Trod enc Tryz.prog W base spare held 25 v d p) : ∃ fs : List Fa, FReads W v fs := by
  obtain ⟨a, len, cap, rfl⟩ := okWide_slice Tryz.underlying25 hv
  obtain ⟨fuel, hf⟩ := h
  rcases Go.Deep.open_slice Tryz.underlying25 hf with ⟨hcs, _⟩ | ⟨x, len', cap', m, n, D, Pl, hcs, _, hl, hm, hz, _, hcell⟩
  · simp [Value.cells] at hcs
    obtain ⟨rfl, rfl, rfl⟩ := hcs
    exact ⟨[], none, 0, rfl, by simp, by simp, .inl rfl⟩
  · simp [Value.cells] at hcs
    obtain ⟨rfl, rfl, rfl⟩ := hcs
    have hzl : len ≤ m := by rw [hz]; split <;> omega
    have hce : Tryz.prog.cellsOf 36 = 3 := by kernel_rfl
    rw [hce] at hcell
    have hall : ∀ j, ∃ (y : Fa), j < len → (∀ i (hi : i < 3), W.cell? (x.add (j * 3 + i)) = some ((c3 y)[i]'hi)) ∧ SReads W y.v y.D ∧ FaB y := by
      intro j
      by_cases hj : j < len
      · obtain ⟨cs', hc1, hc2⟩ := hcell j (by omega)
        obtain ⟨_, hl7, hq⟩ := World.cells?_some hc1
        obtain ⟨c0, c1, c2, rfl⟩ := threeF hl7
        obtain ⟨f, e, hr, ha⟩ := openF' hc2
        refine ⟨f, fun _ => ⟨fun i hi => ?_, hr, ha⟩⟩
        have h1 := hq i hi
        rw [e, List.getElem?_eq_getElem (show i < (c3 f).length from hi)] at h1
        have ea : (x.add (j * 3)).add i = x.add (j * 3 + i) := by
          obtain ⟨xb, xo, xs⟩ := x
          by_cases h1 : j = 0
          · subst h1; simp [Addr.add]
          · have h2 : j * 3 ≠ 0 := by omega
            have h3 : j * 3 + i ≠ 0 := by omega
            by_cases h4 : i = 0
            · subst h4; simp [Addr.add]
            · have h5 : xo + j * 3 + i = xo + (j * 3 + i) := by omega
              unfold Addr.add
              rw [if_neg h2, if_neg h4, if_neg h3]
              simp only [h5]
        rw [ea] at h1
        exact h1
      · exact ⟨⟨.bool false, [], 0, 0⟩, fun h => absurd h hj⟩
    obtain ⟨ys, hys⟩ := Classical.axiomOfChoice hall
    rcases Nat.eq_zero_or_pos len with h0 | h0
    · subst h0
      exact ⟨[], _, cap, rfl, by simp, hm, .inl rfl⟩
    · have k0 := (hys 0 h0).1 0 (by decide)
      have e0 : x.add (0 * 3 + 0) = x := by simp [Addr.add]
      rw [e0] at k0
      obtain ⟨hb, hs⟩ := cell_block k0
      obtain ⟨b, off, spot⟩ := x
      simp only at hb hs
      subst hs
      refine ⟨(List.range len).map fun j => ys j, _, cap, by simp, by simpa using hl, hm, .inr ⟨b, off, rfl, hb, fun j hj => ?_⟩⟩
      simp at hj
      obtain ⟨g1, g2, g3⟩ := hys j hj
      have ej : ((List.range len).map fun j => ys j)[j]'(by simpa using hj) = ys j := by simp
      rw [ej]
      refine ⟨fun i hi => ?_, g2, g3⟩
      have ea : (⟨b, off, none⟩ : Addr).add (j * 3 + i) = ⟨b, off + j * 3 + i, none⟩ := by rw [Nat.add_assoc]; simp [Addr.add]
      have := g1 i hi
      rw [ea] at this
      exact this
theorem jb_short : ∀ (D : List ByteArray), (∀ s ∈ D, s.size ≤ 16) → (jb D).length ≤ 35 * D.length
  | [], _ => by simp [jb]
  | s :: D, h => by
    have h1 := jb_short D (fun t ht => h t (List.mem_cons_of_mem _ ht))
    have h2 := h s (List.mem_cons_self ..)
    have h3 := tx_len s.data.toList
    have h4 : s.data.toList.length = s.size := by simp
    rw [jb_cons]
    simp only [List.length_cons, List.length_append]
    omega
/-- A key of the rules is short. -/
theorem fit_short {R : Rl} {k : Ks} (h : FitK R k) : k.length ≤ 1000 := by
  obtain ⟨D, f, g, hr, _⟩ := h
  obtain ⟨h1, h2⟩ := rdF_taken hr
  obtain ⟨hm, _⟩ := right_facts h1
  have hmm := mayB_iff.1 hm
  have h3 := jb_short D hmm.2
  have h4 := hmm.1
  rw [← h2, kb_len]
  unfold jn
  rw [List.length_append]
  simp only [List.length_cons, List.length_nil]
  omega
theorem fit_gd {R : Rl} {L : List En} (h : FitL R L) (hc : ∀ x ∈ L, CnOk x.2) : GdE L := fun x hx => ⟨hc x hx, (h x hx).r, fun h0 => absurd h0 (h x hx).c⟩
/-- Fold where it may be. -/
theorem fold_ok (R : Rl) (wm : Int) (v : Value) (L : List En) (w : World) (hL : Lies R w.heap.size w) (hE : EReads w v L) (hl : L.length ≤ 100000) (hk : ∀ x ∈ L, x.1.length ≤ 1000) (hz : chkF R wm L = 0) (A : List En) (hA : A = foldF R wm L) :
    Calls Tryz.prog 10 #[.agg #[.slice R.a R.len R.cap, .int .i64 R.kp], .int .i64 wm, v] w fun e w' => ∃ a cap, e = .returned (.tuple #[.slice a A.length cap, .int .i64 0]) ∧ EReads w' (.slice a A.length cap) A ∧ Below w.heap.size w w' := by
  subst hA
  refine (fold_any R wm v L w hL hE hl hk).mono ?_
  rintro e w2 ⟨hb2, ⟨hne, rfl⟩ | ⟨_, l, rfl, hr⟩⟩
  · exact absurd hz hne
  · obtain ⟨a, cap, rfl, _⟩ := hr.form
    exact ⟨a, cap, rfl, hr, hb2⟩
end Go.Proofs.YtgjcopabmdbenaaGreat

/- The contracts of slices.swapRangeCmpFunc and rotateCmpFunc of items (written by mkfl17.py). -/
namespace Go.Proofs.YtgjcopabmdbenaaGreat
open Go.RowKit Go.Shelf

/-- The nine cells of an item. -/
def NineAt (V : World) (g o : Nat) (P : It) (pa : Option Addr) (pn pc : Nat) : Prop :=
  V.cell? ⟨g, o, none⟩ = some (.slice pa pn pc) ∧ V.cell? ⟨g, o + 1, none⟩ = some (.int .i64 P.f) ∧ V.cell? ⟨g, o + 2, none⟩ = some (.int .i64 (P.g : Int)) ∧ V.cell? ⟨g, o + 3, none⟩ = some (.int .u64 P.a.c) ∧ V.cell? ⟨g, o + 4, none⟩ = some (.bool P.a.o) ∧ V.cell? ⟨g, o + 5, none⟩ = some (.int .i64 (hi P.a.s)) ∧ V.cell? ⟨g, o + 6, none⟩ = some (.int .u64 (lo P.a.s)) ∧ V.cell? ⟨g, o + 7, none⟩ = some (.int .i64 P.a.mn) ∧ V.cell? ⟨g, o + 8, none⟩ = some (.int .i64 P.a.mx)
theorem PmI.nine {w : World} {base g n cap : Nat} {its0 l : List It} {W : World} (h : PmI w base g n cap its0 l W) {X : Nat} (hX : X < n) : ∃ (P : It) (pa : Option Addr) (pn pc : Nat), l[X]? = some P ∧ c9 P = [.slice pa pn pc, .int .i64 P.f, .int .i64 (P.g : Int), .int .u64 P.a.c, .bool P.a.o, .int .i64 (hi P.a.s), .int .u64 (lo P.a.s), .int .i64 P.a.mn, .int .i64 P.a.mx] ∧ ∀ V, Below W.heap.size W V → NineAt V g (X * 9) P pa pn pc := by
  have hl := h.len
  have hXl : X < l.length := by omega
  obtain ⟨pa, pc, hpv, _⟩ := (h.s l[X] (List.getElem_mem hXl)).1.form
  refine ⟨l[X], pa, l[X].D.length, pc, List.getElem?_eq_getElem hXl, by unfold c9; rw [hpv], fun V hV => ?_⟩
  have hgl : g < W.heap.size := (World.ownsRow.lt h.r g rfl).2
  have q := fun t (ht : t < 9) => (hV.cell (p := ⟨g, X * 9 + t, none⟩) hgl).trans (h.cells hXl ht)
  have q0 := q 0 (by decide)
  simp only [c9, List.getElem_cons_zero, Nat.add_zero] at q0
  rw [hpv] at q0
  exact ⟨q0, q 1 (by decide), q 2 (by decide), q 3 (by decide), q 4 (by decide), q 5 (by decide), q 6 (by decide), q 7 (by decide), q 8 (by decide)⟩
theorem PmI.swap2 {w : World} {base g n cap : Nat} {its0 l : List It} {A B C : World} {cur cur2 : Array Value} {X Y : Nat} {P Q : It} (h : PmI w base g n cap its0 l A) (hP : l[X]? = some P) (hQ : l[Y]? = some Q) (hcur : A.heap[g]? = some (.cells cur 59)) (hB : StW A B g (X * 9) cur 59 (c9 Q))
    (hc2 : B.heap[g]? = some (.cells cur2 59)) (hC : StW B C g (Y * 9) cur2 59 (c9 P)) : ∃ l', PmI w base g n cap its0 l' C := by
  obtain ⟨hx, rfl⟩ := List.getElem?_eq_some_iff.1 hP
  obtain ⟨hy, rfl⟩ := List.getElem?_eq_some_iff.1 hQ
  exact ⟨_, h.swap hx hy hcur hB (fun c h2 => stW_any hc2 h2 hC)⟩
theorem PmI.ord {w : World} {base g n cap : Nat} {its0 l : List It} {W : World} {X Y : Nat} {P Q : It} {pa qa : Option Addr} {pn pc qn qc : Nat} (h : PmI w base g n cap its0 l W) (hP : l[X]? = some P) (hQ : l[Y]? = some Q)
    (hPc : c9 P = [.slice pa pn pc, .int .i64 P.f, .int .i64 (P.g : Int), .int .u64 P.a.c, .bool P.a.o, .int .i64 (hi P.a.s), .int .u64 (lo P.a.s), .int .i64 P.a.mn, .int .i64 P.a.mx])
    (hQc : c9 Q = [.slice qa qn qc, .int .i64 Q.f, .int .i64 (Q.g : Int), .int .u64 Q.a.c, .bool Q.a.o, .int .i64 (hi Q.a.s), .int .u64 (lo Q.a.s), .int .i64 Q.a.mn, .int .i64 Q.a.mx]) :
    ∀ V, Below W.heap.size W V → Calls Tryz.prog 17 #[.agg #[.slice pa pn pc, .int .i64 P.f, .int .i64 (P.g : Int), .int .u64 P.a.c, .bool P.a.o, .int .i64 (hi P.a.s), .int .u64 (lo P.a.s), .int .i64 P.a.mn, .int .i64 P.a.mx], .agg #[.slice qa qn qc, .int .i64 Q.f, .int .i64 (Q.g : Int), .int .u64 Q.a.c, .bool Q.a.o, .int .i64 (hi Q.a.s), .int .u64 (lo Q.a.s), .int .i64 Q.a.mn, .int .i64 Q.a.mx]] V (OdPost V) := by
  intro V hV
  have sP := h.s P (List.mem_of_getElem? hP)
  have sQ := h.s Q (List.mem_of_getElem? hQ)
  have hod := order15_any P Q V (sP.1.below hV) (sQ.1.below hV) sP.2.2 sQ.2.2
  have e1 : itV P = .agg (c9 P).toArray := rfl
  have e2 : itV Q = .agg (c9 Q).toArray := rfl
  rw [e1, e2, hPc, hQc] at hod
  exact hod
theorem pm_cap {w : World} {base g n cap : Nat} {its0 its : List It} {W : World} (h : PmI w base g n cap its0 its W) : n ≤ cap ∧ cap ≤ 9223372036854775807 := by
  rcases h.r.2 with ⟨q, _⟩ | ⟨g', c', cur0, q, _, hw, hc1, hm, hs, _⟩
  · simp at q
  · simp at q
    obtain ⟨rfl, rfl⟩ := q
    unfold maxLen at hm
    exact ⟨hc1, hm⟩
set_option maxRecDepth 100000 in
set_option maxHeartbeats 8000000 in
theorem swapRange_any (w : World) (base g n cap : Nat) (its0 its : List It) (W : World) (h : PmI w base g n cap its0 its W) (hn : n ≤ 100000) (a b k : Nat) (ha : a + k ≤ n) (hb : b + k ≤ n) :
    Calls Tryz.prog 99 #[.slice (some ⟨g, 0, none⟩) n cap, .int .i64 (a : Int), .int .i64 (b : Int), .int .i64 (k : Int), .func (.func 17) #[] #[]] W (IsPost w base g n cap its0) := by
  have HI0 : Hid (PmI w base g n cap its0 its W) := h
  have hcapm := pm_cap h
  clear h
  go_enter Tryz.func99, Tryz.ntmps99
  go_wp2_with fail
  go_loopw [10] (fun iv wr => ∃ (i : Nat) (l : List It), iv = .int .i64 (i : Int) ∧ i ≤ k ∧ Hid (PmI w base g n cap its0 l wr)) (fun iv _ => k - (intOf iv).toNat)
  case atStart => exact ⟨0, its, rfl, by omega, HI0⟩
  case round =>
    clear HI0
    obtain ⟨i, l, rfl, hik, HI⟩ := hrel
    by_cases hlt : i < k
    · obtain ⟨X, HXe⟩ := hid_ex (a + i)
      obtain ⟨Y, HYe⟩ := hid_ex (b + i)
      have hXn : X < n := by rw [HXe.out]; omega
      have hYn : Y < n := by rw [HYe.out]; omega
      obtain ⟨P, pa, pn, pc, hPg, hPc, hPn⟩ := HI.out.nine hXn
      obtain ⟨Q, qa, qn, qc, hQg, hQc, hQn⟩ := HI.out.nine hYn
      have HPg : Hid _ := hPg
      have HQg : Hid _ := hQg
      have HPc : Hid _ := hPc
      have HQc : Hid _ := hQc
      obtain ⟨c0, c1, c2, c3, c4, c5, c6, c7, c8⟩ := hPn _ (Below.refl _ _)
      obtain ⟨d0, d1, d2, d3, d4, d5, d6, d7, d8⟩ := hQn _ (Below.refl _ _)
      obtain ⟨cur, hcur, hcs⟩ := pmI_row HI.out
      have HCU : Hid _ := hcur
      clear hcur hPg hQg hPc hQc hPn hQn
      go_wp2_with fail
      refine wp_region_noPanic ?_
      refine wp_region_S 21 (fun _ => True) (fun w' => w'.cell? ⟨g, X * 9, none⟩ = some (.slice pa pn pc) ∧ w'.cell? ⟨g, X * 9 + 1, none⟩ = some (.int .i64 P.f) ∧ w'.cell? ⟨g, X * 9 + 2, none⟩ = some (.int .i64 (P.g : Int)) ∧ w'.cell? ⟨g, X * 9 + 3, none⟩ = some (.int .u64 P.a.c) ∧ w'.cell? ⟨g, X * 9 + 4, none⟩ = some (.bool P.a.o) ∧ w'.cell? ⟨g, X * 9 + 5, none⟩ = some (.int .i64 (hi P.a.s)) ∧ w'.cell? ⟨g, X * 9 + 6, none⟩ = some (.int .u64 (lo P.a.s)) ∧ w'.cell? ⟨g, X * 9 + 7, none⟩ = some (.int .i64 P.a.mn) ∧ w'.cell? ⟨g, X * 9 + 8, none⟩ = some (.int .i64 P.a.mx) ∧ w'.cell? ⟨g, Y * 9, none⟩ = some (.slice qa qn qc) ∧ w'.cell? ⟨g, Y * 9 + 1, none⟩ = some (.int .i64 Q.f) ∧ w'.cell? ⟨g, Y * 9 + 2, none⟩ = some (.int .i64 (Q.g : Int)) ∧ w'.cell? ⟨g, Y * 9 + 3, none⟩ = some (.int .u64 Q.a.c) ∧ w'.cell? ⟨g, Y * 9 + 4, none⟩ = some (.bool Q.a.o) ∧ w'.cell? ⟨g, Y * 9 + 5, none⟩ = some (.int .i64 (hi Q.a.s)) ∧ w'.cell? ⟨g, Y * 9 + 6, none⟩ = some (.int .u64 (lo Q.a.s)) ∧ w'.cell? ⟨g, Y * 9 + 7, none⟩ = some (.int .i64 Q.a.mn) ∧ w'.cell? ⟨g, Y * 9 + 8, none⟩ = some (.int .i64 Q.a.mx)) (by kernel_rfl) ?_ ?_ (fun hHeld => ?_)
      · trivial
      · exact ⟨c0, c1, c2, c3, c4, c5, c6, c7, c8, d0, d1, d2, d3, d4, d5, d6, d7, d8⟩
      refine wpAnyS_take (i := 0) (v := .slice (some ⟨g, 0, none⟩) n cap) _ rfl (by kernel_rfl) (by kernel_rfl) (by kernel_rfl) (by kernel_rfl) (by kernel_rfl) rfl (fun _ _ _ h => h) (Or.inl ⟨by rfl, ?_⟩) hHeld (fun hHeld => ?_)
      · (intro w1 hSw; have hSw := hSw.1; (try dsimp only at hSw); go_simp)
      simp only [List.getElem_toArray, List.getElem_cons_zero, Act.put, List.setIfInBounds_toArray, List.set_cons_zero, List.set_cons_succ]
      refine wpAnyS_take (i := 1) (v := .int .i64 (a : Int)) _ rfl (by kernel_rfl) (by kernel_rfl) (by kernel_rfl) (by kernel_rfl) (by kernel_rfl) rfl (fun _ _ _ h => h) (Or.inl ⟨by rfl, ?_⟩) hHeld (fun hHeld => ?_)
      · (intro w1 hSw; have hSw := hSw.1; (try dsimp only at hSw); go_simp)
      simp only [List.getElem_toArray, List.getElem_cons_succ, List.getElem_cons_zero, Act.put, List.setIfInBounds_toArray, List.set_cons_zero, List.set_cons_succ]
      refine wpAnyS_take (i := 2) (v := .int .i64 (i : Int)) _ rfl (by kernel_rfl) (by kernel_rfl) (by kernel_rfl) (by kernel_rfl) (by kernel_rfl) rfl (fun _ _ _ h => h) (Or.inl ⟨by rfl, ?_⟩) hHeld (fun hHeld => ?_)
      · (intro w1 hSw; have hSw := hSw.1; (try dsimp only at hSw); go_simp)
      simp only [List.getElem_toArray, List.getElem_cons_succ, List.getElem_cons_zero, Act.put, List.setIfInBounds_toArray, List.set_cons_zero, List.set_cons_succ]
      refine wpAnyS_take (i := 3) (v := .int .i64 (X : Int)) _ rfl (by kernel_rfl) (by kernel_rfl) (by kernel_rfl) (by kernel_rfl) (by kernel_rfl) rfl (fun _ _ _ h => h) (Or.inl ⟨by rfl, ?_⟩) hHeld (fun hHeld => ?_)
      · (intro w1 hSw; have hSw := hSw.1; (try dsimp only at hSw); go_simp; (first | (rw [IntKind.wrap_i64]; (try have hq := HXe.out); (try have hr := HYe.out); omega) | ((try have hq := HXe.out); (try have hr := HYe.out); omega)))
      simp only [List.getElem_toArray, List.getElem_cons_succ, List.getElem_cons_zero, Act.put, List.setIfInBounds_toArray, List.set_cons_zero, List.set_cons_succ]
      refine wpAnyS_take (i := 4) (v := .slice (some ⟨g, 0, none⟩) n cap) _ rfl (by kernel_rfl) (by kernel_rfl) (by kernel_rfl) (by kernel_rfl) (by kernel_rfl) rfl (fun _ _ _ h => h) (Or.inl ⟨by rfl, ?_⟩) hHeld (fun hHeld => ?_)
      · (intro w1 hSw; have hSw := hSw.1; (try dsimp only at hSw); go_simp)
      simp only [List.getElem_toArray, List.getElem_cons_succ, List.getElem_cons_zero, Act.put, List.setIfInBounds_toArray, List.set_cons_zero, List.set_cons_succ]
      refine wpAnyS_take (i := 5) (v := .int .i64 (b : Int)) _ rfl (by kernel_rfl) (by kernel_rfl) (by kernel_rfl) (by kernel_rfl) (by kernel_rfl) rfl (fun _ _ _ h => h) (Or.inl ⟨by rfl, ?_⟩) hHeld (fun hHeld => ?_)
      · (intro w1 hSw; have hSw := hSw.1; (try dsimp only at hSw); go_simp)
      simp only [List.getElem_toArray, List.getElem_cons_succ, List.getElem_cons_zero, Act.put, List.setIfInBounds_toArray, List.set_cons_zero, List.set_cons_succ]
      refine wpAnyS_take (i := 6) (v := .int .i64 (i : Int)) _ rfl (by kernel_rfl) (by kernel_rfl) (by kernel_rfl) (by kernel_rfl) (by kernel_rfl) rfl (fun _ _ _ h => h) (Or.inl ⟨by rfl, ?_⟩) hHeld (fun hHeld => ?_)
      · (intro w1 hSw; have hSw := hSw.1; (try dsimp only at hSw); go_simp)
      simp only [List.getElem_toArray, List.getElem_cons_succ, List.getElem_cons_zero, Act.put, List.setIfInBounds_toArray, List.set_cons_zero, List.set_cons_succ]
      refine wpAnyS_take (i := 7) (v := .int .i64 (Y : Int)) _ rfl (by kernel_rfl) (by kernel_rfl) (by kernel_rfl) (by kernel_rfl) (by kernel_rfl) rfl (fun _ _ _ h => h) (Or.inl ⟨by rfl, ?_⟩) hHeld (fun hHeld => ?_)
      · (intro w1 hSw; have hSw := hSw.1; (try dsimp only at hSw); go_simp; (first | (rw [IntKind.wrap_i64]; (try have hq := HXe.out); (try have hr := HYe.out); omega) | ((try have hq := HXe.out); (try have hr := HYe.out); omega)))
      simp only [List.getElem_toArray, List.getElem_cons_succ, List.getElem_cons_zero, Act.put, List.setIfInBounds_toArray, List.set_cons_zero, List.set_cons_succ]
      refine wpAnyS_take (i := 8) (v := .slice (some ⟨g, 0, none⟩) n cap) _ rfl (by kernel_rfl) (by kernel_rfl) (by kernel_rfl) (by kernel_rfl) (by kernel_rfl) rfl (fun _ _ _ h => h) (Or.inl ⟨by rfl, ?_⟩) hHeld (fun hHeld => ?_)
      · (intro w1 hSw; have hSw := hSw.1; (try dsimp only at hSw); go_simp)
      simp only [List.getElem_toArray, List.getElem_cons_succ, List.getElem_cons_zero, Act.put, List.setIfInBounds_toArray, List.set_cons_zero, List.set_cons_succ]
      refine wpAnyS_take (i := 9) (v := .int .i64 (b : Int)) _ rfl (by kernel_rfl) (by kernel_rfl) (by kernel_rfl) (by kernel_rfl) (by kernel_rfl) rfl (fun _ _ _ h => h) (Or.inl ⟨by rfl, ?_⟩) hHeld (fun hHeld => ?_)
      · (intro w1 hSw; have hSw := hSw.1; (try dsimp only at hSw); go_simp)
      simp only [List.getElem_toArray, List.getElem_cons_succ, List.getElem_cons_zero, Act.put, List.setIfInBounds_toArray, List.set_cons_zero, List.set_cons_succ]
      refine wpAnyS_take (i := 10) (v := .int .i64 (i : Int)) _ rfl (by kernel_rfl) (by kernel_rfl) (by kernel_rfl) (by kernel_rfl) (by kernel_rfl) rfl (fun _ _ _ h => h) (Or.inl ⟨by rfl, ?_⟩) hHeld (fun hHeld => ?_)
      · (intro w1 hSw; have hSw := hSw.1; (try dsimp only at hSw); go_simp)
      simp only [List.getElem_toArray, List.getElem_cons_succ, List.getElem_cons_zero, Act.put, List.setIfInBounds_toArray, List.set_cons_zero, List.set_cons_succ]
      refine wpAnyS_take (i := 11) (v := .int .i64 (Y : Int)) _ rfl (by kernel_rfl) (by kernel_rfl) (by kernel_rfl) (by kernel_rfl) (by kernel_rfl) rfl (fun _ _ _ h => h) (Or.inl ⟨by rfl, ?_⟩) hHeld (fun hHeld => ?_)
      · (intro w1 hSw; have hSw := hSw.1; (try dsimp only at hSw); go_simp; (first | (rw [IntKind.wrap_i64]; (try have hq := HXe.out); (try have hr := HYe.out); omega) | ((try have hq := HXe.out); (try have hr := HYe.out); omega)))
      simp only [List.getElem_toArray, List.getElem_cons_succ, List.getElem_cons_zero, Act.put, List.setIfInBounds_toArray, List.set_cons_zero, List.set_cons_succ]
      refine wpAnyS_take (i := 12) (v := .pointer (some ⟨g, Y * 9, none⟩)) _ rfl (by kernel_rfl) (by kernel_rfl) (by kernel_rfl) (by kernel_rfl) (by kernel_rfl) rfl (fun _ _ _ h => h) (Or.inl ⟨by rfl, ?_⟩) hHeld (fun hHeld => ?_)
      · (intro w1 hSw; have hSw := hSw.1; (try dsimp only at hSw); go_simp)
      simp only [List.getElem_toArray, List.getElem_cons_succ, List.getElem_cons_zero, Act.put, List.setIfInBounds_toArray, List.set_cons_zero, List.set_cons_succ]
      refine wpAnyS_take (i := 13) (v := .agg #[.slice qa qn qc, .int .i64 Q.f, .int .i64 (Q.g : Int), .int .u64 Q.a.c, .bool Q.a.o, .int .i64 (hi Q.a.s), .int .u64 (lo Q.a.s), .int .i64 Q.a.mn, .int .i64 Q.a.mx]) true rfl (by kernel_rfl) (by kernel_rfl) (by kernel_rfl) (by kernel_rfl) (by kernel_rfl) (by kernel_rfl) (fun _ _ _ h => h) (Or.inl ⟨by rfl, ?_⟩) hHeld (fun hHeld => ?_)
      · (intro w1 hSw; have hSw2 := hSw.2 rfl; have hSw := hSw.1; (try dsimp only at hSw hSw2); go_simp)
      simp only [List.getElem_toArray, List.getElem_cons_succ, List.getElem_cons_zero, Act.put, List.setIfInBounds_toArray, List.set_cons_zero, List.set_cons_succ]
      refine wpAnyS_take (i := 14) (v := .slice (some ⟨g, 0, none⟩) n cap) _ rfl (by kernel_rfl) (by kernel_rfl) (by kernel_rfl) (by kernel_rfl) (by kernel_rfl) rfl (fun _ _ _ h => h) (Or.inl ⟨by rfl, ?_⟩) hHeld (fun hHeld => ?_)
      · (intro w1 hSw; have hSw := hSw.1; (try dsimp only at hSw); go_simp)
      simp only [List.getElem_toArray, List.getElem_cons_succ, List.getElem_cons_zero, Act.put, List.setIfInBounds_toArray, List.set_cons_zero, List.set_cons_succ]
      refine wpAnyS_take (i := 15) (v := .int .i64 (a : Int)) _ rfl (by kernel_rfl) (by kernel_rfl) (by kernel_rfl) (by kernel_rfl) (by kernel_rfl) rfl (fun _ _ _ h => h) (Or.inl ⟨by rfl, ?_⟩) hHeld (fun hHeld => ?_)
      · (intro w1 hSw; have hSw := hSw.1; (try dsimp only at hSw); go_simp)
      simp only [List.getElem_toArray, List.getElem_cons_succ, List.getElem_cons_zero, Act.put, List.setIfInBounds_toArray, List.set_cons_zero, List.set_cons_succ]
      refine wpAnyS_take (i := 16) (v := .int .i64 (i : Int)) _ rfl (by kernel_rfl) (by kernel_rfl) (by kernel_rfl) (by kernel_rfl) (by kernel_rfl) rfl (fun _ _ _ h => h) (Or.inl ⟨by rfl, ?_⟩) hHeld (fun hHeld => ?_)
      · (intro w1 hSw; have hSw := hSw.1; (try dsimp only at hSw); go_simp)
      simp only [List.getElem_toArray, List.getElem_cons_succ, List.getElem_cons_zero, Act.put, List.setIfInBounds_toArray, List.set_cons_zero, List.set_cons_succ]
      refine wpAnyS_take (i := 17) (v := .int .i64 (X : Int)) _ rfl (by kernel_rfl) (by kernel_rfl) (by kernel_rfl) (by kernel_rfl) (by kernel_rfl) rfl (fun _ _ _ h => h) (Or.inl ⟨by rfl, ?_⟩) hHeld (fun hHeld => ?_)
      · (intro w1 hSw; have hSw := hSw.1; (try dsimp only at hSw); go_simp; (first | (rw [IntKind.wrap_i64]; (try have hq := HXe.out); (try have hr := HYe.out); omega) | ((try have hq := HXe.out); (try have hr := HYe.out); omega)))
      simp only [List.getElem_toArray, List.getElem_cons_succ, List.getElem_cons_zero, Act.put, List.setIfInBounds_toArray, List.set_cons_zero, List.set_cons_succ]
      refine wpAnyS_take (i := 18) (v := .pointer (some ⟨g, X * 9, none⟩)) _ rfl (by kernel_rfl) (by kernel_rfl) (by kernel_rfl) (by kernel_rfl) (by kernel_rfl) rfl (fun _ _ _ h => h) (Or.inl ⟨by rfl, ?_⟩) hHeld (fun hHeld => ?_)
      · (intro w1 hSw; have hSw := hSw.1; (try dsimp only at hSw); go_simp)
      simp only [List.getElem_toArray, List.getElem_cons_succ, List.getElem_cons_zero, Act.put, List.setIfInBounds_toArray, List.set_cons_zero, List.set_cons_succ]
      refine wpAnyS_take (i := 19) (v := .agg #[.slice pa pn pc, .int .i64 P.f, .int .i64 (P.g : Int), .int .u64 P.a.c, .bool P.a.o, .int .i64 (hi P.a.s), .int .u64 (lo P.a.s), .int .i64 P.a.mn, .int .i64 P.a.mx]) true rfl (by kernel_rfl) (by kernel_rfl) (by kernel_rfl) (by kernel_rfl) (by kernel_rfl) (by kernel_rfl) (fun _ _ _ h => h) (Or.inl ⟨by rfl, ?_⟩) hHeld (fun hHeld => ?_)
      · (intro w1 hSw; have hSw2 := hSw.2 rfl; have hSw := hSw.1; (try dsimp only at hSw hSw2); go_simp)
      simp only [List.getElem_toArray, List.getElem_cons_succ, List.getElem_cons_zero, Act.put, List.setIfInBounds_toArray, List.set_cons_zero, List.set_cons_succ]
      refine wpAnyS_take (i := 20) (v := .pointer (some ⟨g, X * 9, none⟩)) _ rfl (by kernel_rfl) (by kernel_rfl) (by kernel_rfl) (by kernel_rfl) (by kernel_rfl) rfl (fun _ _ _ h => h) (Or.inl ⟨by rfl, ?_⟩) hHeld (fun hHeld => ?_)
      · (intro w1 hSw; have hSw := hSw.1; (try dsimp only at hSw); go_simp)
      simp only [List.getElem_toArray, List.getElem_cons_succ, List.getElem_cons_zero, Act.put, List.setIfInBounds_toArray, List.set_cons_zero, List.set_cons_succ]
      refine wpAnyS_ready (i := 21) (by kernel_rfl) rfl (fun K hK => ?_)
      rw [if_pos (by rfl)]
      refine wp_storeN _ _ _ rfl g (X * 9) [.slice qa qn qc, .int .i64 Q.f, .int .i64 (Q.g : Int), .int .u64 Q.a.c, .bool Q.a.o, .int .i64 (hi Q.a.s), .int .u64 (lo Q.a.s), .int .i64 Q.a.mn, .int .i64 Q.a.mx] rfl rfl cur _ HCU.out (by simp; omega) (by kernel_rfl) (by kernel_rfl) (fun W0 hW0 => ?_)
      refine hK.out _ _ ⟨?_, fun hno => absurd hno (by decide)⟩ (fun hHeld => ?_)
      · trivial
      clear hK K
      refine wpAnyS_take (i := 22) (v := .pointer (some ⟨g, Y * 9, none⟩)) _ rfl (by kernel_rfl) (by kernel_rfl) (by kernel_rfl) (by kernel_rfl) (by kernel_rfl) rfl (fun _ _ _ h => h) (Or.inl ⟨by rfl, ?_⟩) hHeld (fun hHeld => ?_)
      · (intro w1 hSw; have hSw := hSw.1; (try dsimp only at hSw); go_simp)
      simp only [List.getElem_toArray, List.getElem_cons_succ, List.getElem_cons_zero, Act.put, List.setIfInBounds_toArray, List.set_cons_zero, List.set_cons_succ]
      refine wpAnyS_ready (i := 23) (by kernel_rfl) rfl (fun K hK => ?_)
      rw [if_pos (by rfl)]
      obtain ⟨cur2, hcu2, hcz2, _, _⟩ := hW0.c
      refine wp_storeN _ _ _ rfl g (Y * 9) [.slice pa pn pc, .int .i64 P.f, .int .i64 (P.g : Int), .int .u64 P.a.c, .bool P.a.o, .int .i64 (hi P.a.s), .int .u64 (lo P.a.s), .int .i64 P.a.mn, .int .i64 P.a.mx] rfl rfl cur2 _ hcu2 (by simp; omega) (by kernel_rfl) (by kernel_rfl) (fun W1 hW1 => ?_)
      refine hK.out _ _ ⟨?_, fun hno => absurd hno (by decide)⟩ (fun hHeld => ?_)
      · trivial
      clear hK K
      refine wpAnyS_done (by kernel_rfl) ?_ _
      refine NoPanic.normal ?_
      obtain ⟨l', hl'⟩ := (HI.out.below (Below.refl wr.heap.size wr).drew).swap2 HPg.out HQg.out HCU.out (by rw [HQc.out]; exact hW0) hcu2 (by rw [HPc.out]; exact hW1)
      have HN : Hid (PmI w base g n cap its0 l' W1) := hl'
      clear hW0 hW1 hl' c0 c1 c2 c3 c4 c5 c6 c7 c8 d0 d1 d2 d3 d4 d5 d6 d7 d8 hcu2 hcz2 hcs
      go_wp2_with fail
      go_roundw
      case rel => exact ⟨i + 1, l', by go_num, by omega, HN⟩
      case measure => simp [intOf]; omega
    · have HE : Hid (IsPost w base g n cap its0 (.returned (.tuple #[])) wr) := ⟨⟨_, rfl⟩, l, HI.out⟩
      go_wp2_with fail
      exact bodyPost_end (results_none rfl _ _ _) rfl HE.out
set_option maxRecDepth 100000 in
set_option maxHeartbeats 8000000 in
theorem rotate_any (w : World) (base g n cap : Nat) (its0 its : List It) (W : World) (h : PmI w base g n cap its0 its W) (hn : n ≤ 100000) (a m b : Nat) (ham : a < m) (hmb : m < b) (hbn : b ≤ n) :
    Calls Tryz.prog 83 #[.slice (some ⟨g, 0, none⟩) n cap, .int .i64 (a : Int), .int .i64 (m : Int), .int .i64 (b : Int), .func (.func 17) #[] #[]] W (IsPost w base g n cap its0) := by
  have HI0 : Hid (PmI w base g n cap its0 its W) := h
  have hcapm := pm_cap h
  clear h
  go_enter Tryz.func83, Tryz.ntmps83
  go_wp2_with fail
  go_loopw [10, 11] (fun iv jv wr => ∃ (i j : Nat) (l : List It), iv = .int .i64 (i : Int) ∧ jv = .int .i64 (j : Int) ∧ 0 < i ∧ 0 < j ∧ i ≤ m ∧ m + j ≤ b ∧ Hid (PmI w base g n cap its0 l wr)) (fun iv jv _ => (intOf iv).toNat + (intOf jv).toNat)
  case atStart => exact ⟨m - a, b - m, its, by go_num, by go_num, by omega, by omega, by omega, by omega, HI0⟩
  case round =>
    clear HI0
    obtain ⟨i, j, l, rfl, rfl, hi0, hj0, him, hjb, HI⟩ := hrel
    by_cases hij : i = j
    · subst hij
      have HSW : Hid (Calls Tryz.prog 99 #[.slice (some ⟨g, 0, none⟩) n cap, .int .i64 ((m : Int) - (i : Int)), .int .i64 (m : Int), .int .i64 (i : Int), .func (.func 17) #[] #[]] wr (IsPost w base g n cap its0)) := by
        have := swapRange_any w base g n cap its0 l wr HI.out hn (m - i) m i (by omega) (by omega)
        rw [show ((m - i : Nat) : Int) = (m : Int) - (i : Int) by omega] at this
        exact this
      go_wp2_with fail
      refine HSW.out.mono ?_
      rintro e w2 ⟨⟨v, rfl⟩, l2, hl2⟩
      have HE : Hid (IsPost w base g n cap its0 (.returned (.tuple #[])) w2) := ⟨⟨_, rfl⟩, l2, hl2⟩
      clear hl2
      go_wp2_with fail
      exact bodyPost_end (results_none rfl _ _ _) rfl HE.out
    · have hbe : ((i : Int) == (j : Int)) = false := by simp; omega
      by_cases hgt : j < i
      · have HSW : Hid (Calls Tryz.prog 99 #[.slice (some ⟨g, 0, none⟩) n cap, .int .i64 ((m : Int) - (i : Int)), .int .i64 (m : Int), .int .i64 (j : Int), .func (.func 17) #[] #[]] wr (IsPost w base g n cap its0)) := by
          have := swapRange_any w base g n cap its0 l wr HI.out hn (m - i) m j (by omega) (by omega)
          rw [show ((m - i : Nat) : Int) = (m : Int) - (i : Int) by omega] at this
          exact this
        clear hij
        go_wp2_with fail
        refine HSW.out.mono ?_
        rintro e w2 ⟨⟨v, rfl⟩, l2, hl2⟩
        have HN : Hid (PmI w base g n cap its0 l2 w2) := hl2
        clear hl2
        go_wp2_with fail
        go_roundw
        case rel => exact ⟨i - j, j, l2, by go_num, rfl, by omega, by omega, by omega, by omega, HN⟩
        case measure => simp [intOf]; omega
      · have HSW : Hid (Calls Tryz.prog 99 #[.slice (some ⟨g, 0, none⟩) n cap, .int .i64 ((m : Int) - (i : Int)), .int .i64 ((m : Int) + (j : Int) - (i : Int)), .int .i64 (i : Int), .func (.func 17) #[] #[]] wr (IsPost w base g n cap its0)) := by
          have := swapRange_any w base g n cap its0 l wr HI.out hn (m - i) (m + j - i) i (by omega) (by omega)
          rw [show ((m - i : Nat) : Int) = (m : Int) - (i : Int) by omega, show ((m + j - i : Nat) : Int) = (m : Int) + (j : Int) - (i : Int) by omega] at this
          exact this
        have hlt2 : i < j := by omega
        clear hij
        go_wp2_with fail
        refine HSW.out.mono ?_
        rintro e w2 ⟨⟨v, rfl⟩, l2, hl2⟩
        have HN : Hid (PmI w base g n cap its0 l2 w2) := hl2
        clear hl2
        go_wp2_with fail
        go_roundw
        case rel => exact ⟨i, j - i, l2, rfl, by go_num, by omega, by omega, by omega, by omega, HN⟩
        case measure => simp [intOf]; omega
end Go.Proofs.YtgjcopabmdbenaaGreat

/- The contract of slices.symMergeCmpFunc of items (written by mkfl17.py). -/
namespace Go.Proofs.YtgjcopabmdbenaaGreat
open Go.RowKit Go.Shelf

/-- A call of symMerge. -/
def SyC (w : World) (base g n cap : Nat) (its0 : List It) (a m b : Nat) (W : World) : Prop :=
  Calls Tryz.prog 55 #[.slice (some ⟨g, 0, none⟩) n cap, .int .i64 (a : Int), .int .i64 (m : Int), .int .i64 (b : Int), .func (.func 17) #[] #[]] W (IsPost w base g n cap its0)
set_option maxRecDepth 100000 in
set_option maxHeartbeats 8000000 in
theorem sym_one (w : World) (base g n cap : Nat) (its0 its : List It) (W : World) (h : PmI w base g n cap its0 its W) (hn : n ≤ 100000) (a m b : Nat) (hm1 : a < m) (hm2 : m ≤ a + 1) (hab : m < b) (hbn : b ≤ n) : SyC w base g n cap its0 a m b W := by
  have HI0 : Hid (PmI w base g n cap its0 its W) := h
  have hcapm := pm_cap h
  have eg := eg_order
  clear h
  unfold SyC
  have hs1 : ((m : Int) - (a : Int) == 1) = true := by simp; omega
  go_enter Tryz.func55, Tryz.ntmps55
  go_wp2_with fail
  go_loopw [10, 11] (fun iv jv wr => ∃ (i j : Nat) (l : List It), iv = .int .i64 (i : Int) ∧ jv = .int .i64 (j : Int) ∧ m ≤ i ∧ i ≤ j ∧ j ≤ b ∧ Hid (PmI w base g n cap its0 l wr)) (fun iv jv _ => (intOf jv).toNat - (intOf iv).toNat)
  case atStart => exact ⟨m, b, its, rfl, rfl, by omega, by omega, by omega, HI0⟩
  case round =>
    clear HI0
    obtain ⟨i, j, l, rfl, rfl, hi1, hij, hjb, HI⟩ := hrel
    by_cases hlt : i < j
    · obtain ⟨X, HXe⟩ := hid_ex ((i + j) / 2)
      have hX1 : i ≤ X := by rw [HXe.out]; omega
      have hX2 : X < j := by rw [HXe.out]; omega
      have hX3 : ((i : Int) + (j : Int)) / 2 = (X : Int) := by rw [HXe.out]; omega
      have HX3 : Hid _ := hX3
      have hXn : X < n := by omega
      have hYn : a < n := by omega
      clear hX3
      obtain ⟨P, pa, pn, pc, hPg, hPc, hPn⟩ := HI.out.nine hXn
      obtain ⟨Q, qa, qn, qc, hQg, hQc, hQn⟩ := HI.out.nine hYn
      have HOD : Hid (∀ V, Below wr.heap.size wr V → Calls Tryz.prog 17 #[.agg #[.slice pa pn pc, .int .i64 P.f, .int .i64 (P.g : Int), .int .u64 P.a.c, .bool P.a.o, .int .i64 (hi P.a.s), .int .u64 (lo P.a.s), .int .i64 P.a.mn, .int .i64 P.a.mx], .agg #[.slice qa qn qc, .int .i64 Q.f, .int .i64 (Q.g : Int), .int .u64 Q.a.c, .bool Q.a.o, .int .i64 (hi Q.a.s), .int .u64 (lo Q.a.s), .int .i64 Q.a.mn, .int .i64 Q.a.mx]] V (OdPost V)) := HI.out.ord hPg hQg hPc hQc
      have HPn : Hid _ := hPn
      have HQn : Hid _ := hQn
      clear hPg hQg hPc hQc hPn hQn
      go_wp2_with fail
      rw [HX3.out]
      refine wp_region_noPanic ?_
      refine wp_region_held_drew (S := (fun w' => Below wr.heap.size wr w')) (by kernel_rfl) ?_ (fun hHeld => ?_)
      · exact (Below.refl _ _).drew
      refine wpAnyH_take (i := 0) (v := .func (.func 17) #[] #[]) rfl (by kernel_rfl) (by kernel_rfl) (by kernel_rfl) (fun _ _ _ h => h) (Or.inl ⟨by rfl, ?_⟩) (by assumption) ?_
      · (intro w1 hSw; (try dsimp only at hSw); go_simp)
      simp only [List.getElem_toArray, List.getElem_cons_zero, Act.put, List.setIfInBounds_toArray, List.set_cons_zero, List.set_cons_succ]
      refine wpAnyH_take (i := 1) (v := .slice (some ⟨g, 0, none⟩) n cap) rfl (by kernel_rfl) (by kernel_rfl) (by kernel_rfl) (fun _ _ _ h => h) (Or.inl ⟨by rfl, ?_⟩) (by assumption) ?_
      · (intro w1 hSw; (try dsimp only at hSw); go_simp)
      simp only [List.getElem_toArray, List.getElem_cons_succ, List.getElem_cons_zero, Act.put, List.setIfInBounds_toArray, List.set_cons_zero, List.set_cons_succ]
      refine wpAnyH_take (i := 2) (v := .int .i64 (X : Int)) rfl (by kernel_rfl) (by kernel_rfl) (by kernel_rfl) (fun _ _ _ h => h) (Or.inl ⟨by rfl, ?_⟩) (by assumption) ?_
      · (intro w1 hSw; (try dsimp only at hSw); go_simp)
      simp only [List.getElem_toArray, List.getElem_cons_succ, List.getElem_cons_zero, Act.put, List.setIfInBounds_toArray, List.set_cons_zero, List.set_cons_succ]
      refine wpAnyH_take (i := 3) (v := .pointer (some ⟨g, X * 9, none⟩)) rfl (by kernel_rfl) (by kernel_rfl) (by kernel_rfl) (fun _ _ _ h => h) (Or.inl ⟨by rfl, ?_⟩) (by assumption) ?_
      · (intro w1 hSw; (try dsimp only at hSw); go_simp)
      simp only [List.getElem_toArray, List.getElem_cons_succ, List.getElem_cons_zero, Act.put, List.setIfInBounds_toArray, List.set_cons_zero, List.set_cons_succ]
      refine wpAnyH_take (i := 4) (v := .agg #[.slice pa pn pc, .int .i64 P.f, .int .i64 (P.g : Int), .int .u64 P.a.c, .bool P.a.o, .int .i64 (hi P.a.s), .int .u64 (lo P.a.s), .int .i64 P.a.mn, .int .i64 P.a.mx]) rfl (by kernel_rfl) (by kernel_rfl) (by kernel_rfl) (fun _ _ _ h => h) (Or.inl ⟨by rfl, ?_⟩) (by assumption) ?_
      · (intro w1 hSw; (try dsimp only at hSw); obtain ⟨c0, c1, c2, c3, c4, c5, c6, c7, c8⟩ := HPn.out _ hSw; go_simp)
      simp only [List.getElem_toArray, List.getElem_cons_succ, List.getElem_cons_zero, Act.put, List.setIfInBounds_toArray, List.set_cons_zero, List.set_cons_succ]
      refine wpAnyH_take (i := 5) (v := .slice (some ⟨g, 0, none⟩) n cap) rfl (by kernel_rfl) (by kernel_rfl) (by kernel_rfl) (fun _ _ _ h => h) (Or.inl ⟨by rfl, ?_⟩) (by assumption) ?_
      · (intro w1 hSw; (try dsimp only at hSw); go_simp)
      simp only [List.getElem_toArray, List.getElem_cons_succ, List.getElem_cons_zero, Act.put, List.setIfInBounds_toArray, List.set_cons_zero, List.set_cons_succ]
      refine wpAnyH_take (i := 6) (v := .int .i64 (a : Int)) rfl (by kernel_rfl) (by kernel_rfl) (by kernel_rfl) (fun _ _ _ h => h) (Or.inl ⟨by rfl, ?_⟩) (by assumption) ?_
      · (intro w1 hSw; (try dsimp only at hSw); go_simp)
      simp only [List.getElem_toArray, List.getElem_cons_succ, List.getElem_cons_zero, Act.put, List.setIfInBounds_toArray, List.set_cons_zero, List.set_cons_succ]
      refine wpAnyH_take (i := 7) (v := .pointer (some ⟨g, a * 9, none⟩)) rfl (by kernel_rfl) (by kernel_rfl) (by kernel_rfl) (fun _ _ _ h => h) (Or.inl ⟨by rfl, ?_⟩) (by assumption) ?_
      · (intro w1 hSw; (try dsimp only at hSw); go_simp)
      simp only [List.getElem_toArray, List.getElem_cons_succ, List.getElem_cons_zero, Act.put, List.setIfInBounds_toArray, List.set_cons_zero, List.set_cons_succ]
      refine wpAnyH_take (i := 8) (v := .agg #[.slice qa qn qc, .int .i64 Q.f, .int .i64 (Q.g : Int), .int .u64 Q.a.c, .bool Q.a.o, .int .i64 (hi Q.a.s), .int .u64 (lo Q.a.s), .int .i64 Q.a.mn, .int .i64 Q.a.mx]) rfl (by kernel_rfl) (by kernel_rfl) (by kernel_rfl) (fun _ _ _ h => h) (Or.inl ⟨by rfl, ?_⟩) (by assumption) ?_
      · (intro w1 hSw; (try dsimp only at hSw); obtain ⟨c0, c1, c2, c3, c4, c5, c6, c7, c8⟩ := HQn.out _ hSw; go_simp)
      simp only [List.getElem_toArray, List.getElem_cons_succ, List.getElem_cons_zero, Act.put, List.setIfInBounds_toArray, List.set_cons_zero, List.set_cons_succ]
      refine wpAnyH_ready (rs := [9]) (by kernel_rfl) (by simp) ?_
      refine AllReadyH.cons (o := _) rfl (fun K hK => ?_) AllReadyH.nil
      go_simp
      refine (HOD.out _ (Below.refl _ _).drew).mono ?_
      rintro e w4 ⟨c, rfl, _, _, hb4⟩
      have HW4 : Hid (Below wr.heap.size wr w4) := (Below.refl wr.heap.size wr).drew.trans hb4
      clear hb4
      refine hK.out _ _ ?_ (fun hHeld => ?_)
      · exact HW4.out
      clear hK K
      refine wpAnyH_take (i := 10) (v := .bool (decide (c < 0))) rfl (by kernel_rfl) (by kernel_rfl) (by kernel_rfl) (fun _ _ _ h => h) (Or.inl ⟨by rfl, ?_⟩) (by assumption) ?_
      · (intro w1 hSw; (try dsimp only at hSw); go_simp)
      simp only [List.getElem_toArray, List.getElem_cons_succ, List.getElem_cons_zero, Act.put, List.setIfInBounds_toArray, List.set_cons_zero, List.set_cons_succ]
      clear hHeld
      refine wpAnyH_done (by kernel_rfl) ?_ _
      refine NoPanic.normal ?_
      have HI4 : Hid (PmI w base g n cap its0 l w4) := HI.out.below HW4.out
      obtain ⟨t, Ht⟩ := hid_ex (decide (c < 0))
      rw [← Ht.out]
      clear Ht HOD HPn HQn
      cases t with
      | true =>
        go_wp2_with fail
        go_roundw
        case rel => exact ⟨X + 1, j, l, by go_num, rfl, by omega, by omega, by omega, HI4⟩
        case measure => simp [intOf]; omega
      | false =>
        go_wp2_with fail
        go_roundw
        case rel => exact ⟨i, X, l, rfl, rfl, by omega, by omega, by omega, HI4⟩
        case measure => simp [intOf]; omega
    · go_wp2_with fail
      go_loopw [13] (fun kv wr => ∃ (k : Nat) (l : List It), kv = .int .i64 (k : Int) ∧ a ≤ k ∧ k < i ∧ Hid (PmI w base g n cap its0 l wr)) (fun kv _ => i - (intOf kv).toNat)
      case atStart => exact ⟨a, l, rfl, by omega, by omega, HI⟩
      case round =>
        clear HI
        obtain ⟨k, l, rfl, hk1, hk2, HI⟩ := hrel
        by_cases hki : k + 1 < i
        · obtain ⟨Y, HYe⟩ := hid_ex (k + 1)
          have hXn : k < n := by omega
          have hYn : Y < n := by rw [HYe.out]; omega
          have hg1 : (k : Int) < (i : Int) - 1 := by omega
          obtain ⟨P, pa, pn, pc, hPg, hPc, hPn⟩ := HI.out.nine hXn
          obtain ⟨Q, qa, qn, qc, hQg, hQc, hQn⟩ := HI.out.nine hYn
          have HPg : Hid _ := hPg
          have HQg : Hid _ := hQg
          have HPc : Hid _ := hPc
          have HQc : Hid _ := hQc
          obtain ⟨c0, c1, c2, c3, c4, c5, c6, c7, c8⟩ := hPn _ (Below.refl _ _)
          obtain ⟨d0, d1, d2, d3, d4, d5, d6, d7, d8⟩ := hQn _ (Below.refl _ _)
          obtain ⟨cur, hcur, hcs⟩ := pmI_row HI.out
          have HCU : Hid _ := hcur
          clear hcur hPg hQg hPc hQc hPn hQn
          go_wp2_with fail
          refine wp_region_noPanic ?_
          refine wp_region_S 15 (fun _ => True) (fun w' => w'.cell? ⟨g, k * 9, none⟩ = some (.slice pa pn pc) ∧ w'.cell? ⟨g, k * 9 + 1, none⟩ = some (.int .i64 P.f) ∧ w'.cell? ⟨g, k * 9 + 2, none⟩ = some (.int .i64 (P.g : Int)) ∧ w'.cell? ⟨g, k * 9 + 3, none⟩ = some (.int .u64 P.a.c) ∧ w'.cell? ⟨g, k * 9 + 4, none⟩ = some (.bool P.a.o) ∧ w'.cell? ⟨g, k * 9 + 5, none⟩ = some (.int .i64 (hi P.a.s)) ∧ w'.cell? ⟨g, k * 9 + 6, none⟩ = some (.int .u64 (lo P.a.s)) ∧ w'.cell? ⟨g, k * 9 + 7, none⟩ = some (.int .i64 P.a.mn) ∧ w'.cell? ⟨g, k * 9 + 8, none⟩ = some (.int .i64 P.a.mx) ∧ w'.cell? ⟨g, Y * 9, none⟩ = some (.slice qa qn qc) ∧ w'.cell? ⟨g, Y * 9 + 1, none⟩ = some (.int .i64 Q.f) ∧ w'.cell? ⟨g, Y * 9 + 2, none⟩ = some (.int .i64 (Q.g : Int)) ∧ w'.cell? ⟨g, Y * 9 + 3, none⟩ = some (.int .u64 Q.a.c) ∧ w'.cell? ⟨g, Y * 9 + 4, none⟩ = some (.bool Q.a.o) ∧ w'.cell? ⟨g, Y * 9 + 5, none⟩ = some (.int .i64 (hi Q.a.s)) ∧ w'.cell? ⟨g, Y * 9 + 6, none⟩ = some (.int .u64 (lo Q.a.s)) ∧ w'.cell? ⟨g, Y * 9 + 7, none⟩ = some (.int .i64 Q.a.mn) ∧ w'.cell? ⟨g, Y * 9 + 8, none⟩ = some (.int .i64 Q.a.mx)) (by kernel_rfl) ?_ ?_ (fun hHeld => ?_)
          · trivial
          · exact ⟨c0, c1, c2, c3, c4, c5, c6, c7, c8, d0, d1, d2, d3, d4, d5, d6, d7, d8⟩
          refine wpAnyS_take (i := 0) (v := .slice (some ⟨g, 0, none⟩) n cap) _ rfl (by kernel_rfl) (by kernel_rfl) (by kernel_rfl) (by kernel_rfl) (by kernel_rfl) rfl (fun _ _ _ h => h) (Or.inl ⟨by rfl, ?_⟩) hHeld (fun hHeld => ?_)
          · (intro w1 hSw; have hSw := hSw.1; (try dsimp only at hSw); go_simp)
          simp only [List.getElem_toArray, List.getElem_cons_zero, Act.put, List.setIfInBounds_toArray, List.set_cons_zero, List.set_cons_succ]
          refine wpAnyS_take (i := 1) (v := .int .i64 (k : Int)) _ rfl (by kernel_rfl) (by kernel_rfl) (by kernel_rfl) (by kernel_rfl) (by kernel_rfl) rfl (fun _ _ _ h => h) (Or.inl ⟨by rfl, ?_⟩) hHeld (fun hHeld => ?_)
          · (intro w1 hSw; have hSw := hSw.1; (try dsimp only at hSw); go_simp)
          simp only [List.getElem_toArray, List.getElem_cons_succ, List.getElem_cons_zero, Act.put, List.setIfInBounds_toArray, List.set_cons_zero, List.set_cons_succ]
          refine wpAnyS_take (i := 2) (v := .slice (some ⟨g, 0, none⟩) n cap) _ rfl (by kernel_rfl) (by kernel_rfl) (by kernel_rfl) (by kernel_rfl) (by kernel_rfl) rfl (fun _ _ _ h => h) (Or.inl ⟨by rfl, ?_⟩) hHeld (fun hHeld => ?_)
          · (intro w1 hSw; have hSw := hSw.1; (try dsimp only at hSw); go_simp)
          simp only [List.getElem_toArray, List.getElem_cons_succ, List.getElem_cons_zero, Act.put, List.setIfInBounds_toArray, List.set_cons_zero, List.set_cons_succ]
          refine wpAnyS_take (i := 3) (v := .int .i64 (k : Int)) _ rfl (by kernel_rfl) (by kernel_rfl) (by kernel_rfl) (by kernel_rfl) (by kernel_rfl) rfl (fun _ _ _ h => h) (Or.inl ⟨by rfl, ?_⟩) hHeld (fun hHeld => ?_)
          · (intro w1 hSw; have hSw := hSw.1; (try dsimp only at hSw); go_simp)
          simp only [List.getElem_toArray, List.getElem_cons_succ, List.getElem_cons_zero, Act.put, List.setIfInBounds_toArray, List.set_cons_zero, List.set_cons_succ]
          refine wpAnyS_take (i := 4) (v := .int .i64 (Y : Int)) _ rfl (by kernel_rfl) (by kernel_rfl) (by kernel_rfl) (by kernel_rfl) (by kernel_rfl) rfl (fun _ _ _ h => h) (Or.inl ⟨by rfl, ?_⟩) hHeld (fun hHeld => ?_)
          · (intro w1 hSw; have hSw := hSw.1; (try dsimp only at hSw); go_simp; (first | (rw [IntKind.wrap_i64]; (try have hq := HXe.out); (try have hr := HYe.out); omega) | ((try have hq := HXe.out); (try have hr := HYe.out); omega)))
          simp only [List.getElem_toArray, List.getElem_cons_succ, List.getElem_cons_zero, Act.put, List.setIfInBounds_toArray, List.set_cons_zero, List.set_cons_succ]
          refine wpAnyS_take (i := 5) (v := .slice (some ⟨g, 0, none⟩) n cap) _ rfl (by kernel_rfl) (by kernel_rfl) (by kernel_rfl) (by kernel_rfl) (by kernel_rfl) rfl (fun _ _ _ h => h) (Or.inl ⟨by rfl, ?_⟩) hHeld (fun hHeld => ?_)
          · (intro w1 hSw; have hSw := hSw.1; (try dsimp only at hSw); go_simp)
          simp only [List.getElem_toArray, List.getElem_cons_succ, List.getElem_cons_zero, Act.put, List.setIfInBounds_toArray, List.set_cons_zero, List.set_cons_succ]
          refine wpAnyS_take (i := 6) (v := .int .i64 (k : Int)) _ rfl (by kernel_rfl) (by kernel_rfl) (by kernel_rfl) (by kernel_rfl) (by kernel_rfl) rfl (fun _ _ _ h => h) (Or.inl ⟨by rfl, ?_⟩) hHeld (fun hHeld => ?_)
          · (intro w1 hSw; have hSw := hSw.1; (try dsimp only at hSw); go_simp)
          simp only [List.getElem_toArray, List.getElem_cons_succ, List.getElem_cons_zero, Act.put, List.setIfInBounds_toArray, List.set_cons_zero, List.set_cons_succ]
          refine wpAnyS_take (i := 7) (v := .int .i64 (Y : Int)) _ rfl (by kernel_rfl) (by kernel_rfl) (by kernel_rfl) (by kernel_rfl) (by kernel_rfl) rfl (fun _ _ _ h => h) (Or.inl ⟨by rfl, ?_⟩) hHeld (fun hHeld => ?_)
          · (intro w1 hSw; have hSw := hSw.1; (try dsimp only at hSw); go_simp; (first | (rw [IntKind.wrap_i64]; (try have hq := HXe.out); (try have hr := HYe.out); omega) | ((try have hq := HXe.out); (try have hr := HYe.out); omega)))
          simp only [List.getElem_toArray, List.getElem_cons_succ, List.getElem_cons_zero, Act.put, List.setIfInBounds_toArray, List.set_cons_zero, List.set_cons_succ]
          refine wpAnyS_take (i := 8) (v := .pointer (some ⟨g, Y * 9, none⟩)) _ rfl (by kernel_rfl) (by kernel_rfl) (by kernel_rfl) (by kernel_rfl) (by kernel_rfl) rfl (fun _ _ _ h => h) (Or.inl ⟨by rfl, ?_⟩) hHeld (fun hHeld => ?_)
          · (intro w1 hSw; have hSw := hSw.1; (try dsimp only at hSw); go_simp)
          simp only [List.getElem_toArray, List.getElem_cons_succ, List.getElem_cons_zero, Act.put, List.setIfInBounds_toArray, List.set_cons_zero, List.set_cons_succ]
          refine wpAnyS_take (i := 9) (v := .agg #[.slice qa qn qc, .int .i64 Q.f, .int .i64 (Q.g : Int), .int .u64 Q.a.c, .bool Q.a.o, .int .i64 (hi Q.a.s), .int .u64 (lo Q.a.s), .int .i64 Q.a.mn, .int .i64 Q.a.mx]) true rfl (by kernel_rfl) (by kernel_rfl) (by kernel_rfl) (by kernel_rfl) (by kernel_rfl) (by kernel_rfl) (fun _ _ _ h => h) (Or.inl ⟨by rfl, ?_⟩) hHeld (fun hHeld => ?_)
          · (intro w1 hSw; have hSw2 := hSw.2 rfl; have hSw := hSw.1; (try dsimp only at hSw hSw2); go_simp)
          simp only [List.getElem_toArray, List.getElem_cons_succ, List.getElem_cons_zero, Act.put, List.setIfInBounds_toArray, List.set_cons_zero, List.set_cons_succ]
          refine wpAnyS_take (i := 10) (v := .slice (some ⟨g, 0, none⟩) n cap) _ rfl (by kernel_rfl) (by kernel_rfl) (by kernel_rfl) (by kernel_rfl) (by kernel_rfl) rfl (fun _ _ _ h => h) (Or.inl ⟨by rfl, ?_⟩) hHeld (fun hHeld => ?_)
          · (intro w1 hSw; have hSw := hSw.1; (try dsimp only at hSw); go_simp)
          simp only [List.getElem_toArray, List.getElem_cons_succ, List.getElem_cons_zero, Act.put, List.setIfInBounds_toArray, List.set_cons_zero, List.set_cons_succ]
          refine wpAnyS_take (i := 11) (v := .int .i64 (k : Int)) _ rfl (by kernel_rfl) (by kernel_rfl) (by kernel_rfl) (by kernel_rfl) (by kernel_rfl) rfl (fun _ _ _ h => h) (Or.inl ⟨by rfl, ?_⟩) hHeld (fun hHeld => ?_)
          · (intro w1 hSw; have hSw := hSw.1; (try dsimp only at hSw); go_simp)
          simp only [List.getElem_toArray, List.getElem_cons_succ, List.getElem_cons_zero, Act.put, List.setIfInBounds_toArray, List.set_cons_zero, List.set_cons_succ]
          refine wpAnyS_take (i := 12) (v := .pointer (some ⟨g, k * 9, none⟩)) _ rfl (by kernel_rfl) (by kernel_rfl) (by kernel_rfl) (by kernel_rfl) (by kernel_rfl) rfl (fun _ _ _ h => h) (Or.inl ⟨by rfl, ?_⟩) hHeld (fun hHeld => ?_)
          · (intro w1 hSw; have hSw := hSw.1; (try dsimp only at hSw); go_simp)
          simp only [List.getElem_toArray, List.getElem_cons_succ, List.getElem_cons_zero, Act.put, List.setIfInBounds_toArray, List.set_cons_zero, List.set_cons_succ]
          refine wpAnyS_take (i := 13) (v := .agg #[.slice pa pn pc, .int .i64 P.f, .int .i64 (P.g : Int), .int .u64 P.a.c, .bool P.a.o, .int .i64 (hi P.a.s), .int .u64 (lo P.a.s), .int .i64 P.a.mn, .int .i64 P.a.mx]) true rfl (by kernel_rfl) (by kernel_rfl) (by kernel_rfl) (by kernel_rfl) (by kernel_rfl) (by kernel_rfl) (fun _ _ _ h => h) (Or.inl ⟨by rfl, ?_⟩) hHeld (fun hHeld => ?_)
          · (intro w1 hSw; have hSw2 := hSw.2 rfl; have hSw := hSw.1; (try dsimp only at hSw hSw2); go_simp)
          simp only [List.getElem_toArray, List.getElem_cons_succ, List.getElem_cons_zero, Act.put, List.setIfInBounds_toArray, List.set_cons_zero, List.set_cons_succ]
          refine wpAnyS_take (i := 14) (v := .pointer (some ⟨g, k * 9, none⟩)) _ rfl (by kernel_rfl) (by kernel_rfl) (by kernel_rfl) (by kernel_rfl) (by kernel_rfl) rfl (fun _ _ _ h => h) (Or.inl ⟨by rfl, ?_⟩) hHeld (fun hHeld => ?_)
          · (intro w1 hSw; have hSw := hSw.1; (try dsimp only at hSw); go_simp)
          simp only [List.getElem_toArray, List.getElem_cons_succ, List.getElem_cons_zero, Act.put, List.setIfInBounds_toArray, List.set_cons_zero, List.set_cons_succ]
          refine wpAnyS_ready (i := 15) (by kernel_rfl) rfl (fun K hK => ?_)
          rw [if_pos (by rfl)]
          refine wp_storeN _ _ _ rfl g (k * 9) [.slice qa qn qc, .int .i64 Q.f, .int .i64 (Q.g : Int), .int .u64 Q.a.c, .bool Q.a.o, .int .i64 (hi Q.a.s), .int .u64 (lo Q.a.s), .int .i64 Q.a.mn, .int .i64 Q.a.mx] rfl rfl cur _ HCU.out (by simp; omega) (by kernel_rfl) (by kernel_rfl) (fun W0 hW0 => ?_)
          refine hK.out _ _ ⟨?_, fun hno => absurd hno (by decide)⟩ (fun hHeld => ?_)
          · trivial
          clear hK K
          refine wpAnyS_take (i := 16) (v := .pointer (some ⟨g, Y * 9, none⟩)) _ rfl (by kernel_rfl) (by kernel_rfl) (by kernel_rfl) (by kernel_rfl) (by kernel_rfl) rfl (fun _ _ _ h => h) (Or.inl ⟨by rfl, ?_⟩) hHeld (fun hHeld => ?_)
          · (intro w1 hSw; have hSw := hSw.1; (try dsimp only at hSw); go_simp)
          simp only [List.getElem_toArray, List.getElem_cons_succ, List.getElem_cons_zero, Act.put, List.setIfInBounds_toArray, List.set_cons_zero, List.set_cons_succ]
          refine wpAnyS_ready (i := 17) (by kernel_rfl) rfl (fun K hK => ?_)
          rw [if_pos (by rfl)]
          obtain ⟨cur2, hcu2, hcz2, _, _⟩ := hW0.c
          refine wp_storeN _ _ _ rfl g (Y * 9) [.slice pa pn pc, .int .i64 P.f, .int .i64 (P.g : Int), .int .u64 P.a.c, .bool P.a.o, .int .i64 (hi P.a.s), .int .u64 (lo P.a.s), .int .i64 P.a.mn, .int .i64 P.a.mx] rfl rfl cur2 _ hcu2 (by simp; omega) (by kernel_rfl) (by kernel_rfl) (fun W1 hW1 => ?_)
          refine hK.out _ _ ⟨?_, fun hno => absurd hno (by decide)⟩ (fun hHeld => ?_)
          · trivial
          clear hK K
          refine wpAnyS_done (by kernel_rfl) ?_ _
          refine NoPanic.normal ?_
          obtain ⟨l', hl'⟩ := (HI.out.below (Below.refl wr.heap.size wr).drew).swap2 HPg.out HQg.out HCU.out (by rw [HQc.out]; exact hW0) hcu2 (by rw [HPc.out]; exact hW1)
          have HN : Hid (PmI w base g n cap its0 l' W1) := hl'
          clear hW0 hW1 hl' c0 c1 c2 c3 c4 c5 c6 c7 c8 d0 d1 d2 d3 d4 d5 d6 d7 d8 hcu2 hcz2 hcs
          go_wp2_with fail
          go_roundw
          case rel => exact ⟨k + 1, l', by go_num, by omega, by omega, HN⟩
          case measure => simp [intOf]; omega
        · have hg1 : ¬ ((k : Int) < (i : Int) - 1) := by omega
          have HE : Hid (IsPost w base g n cap its0 (.returned (.tuple #[])) wr) := ⟨⟨_, rfl⟩, l, HI.out⟩
          go_wp2_with fail
          exact bodyPost_ret (results_none rfl _ _ _) rfl HE.out
set_option maxRecDepth 100000 in
set_option maxHeartbeats 8000000 in
theorem sym_two (w : World) (base g n cap : Nat) (its0 its : List It) (W : World) (h : PmI w base g n cap its0 its W) (hn : n ≤ 100000) (a m b : Nat) (hm1 : a + 1 < m) (hm2 : b ≤ m + 1) (hab : m < b) (hbn : b ≤ n) : SyC w base g n cap its0 a m b W := by
  have HI0 : Hid (PmI w base g n cap its0 its W) := h
  have hcapm := pm_cap h
  have eg := eg_order
  clear h
  unfold SyC
  have hs1 : ((m : Int) - (a : Int) == 1) = false := by simp; omega
  have hs2 : ((b : Int) - (m : Int) == 1) = true := by simp; omega
  go_enter Tryz.func55, Tryz.ntmps55
  go_wp2_with fail
  go_loopw [14, 15] (fun iv jv wr => ∃ (i j : Nat) (l : List It), iv = .int .i64 (i : Int) ∧ jv = .int .i64 (j : Int) ∧ a ≤ i ∧ i ≤ j ∧ j ≤ m ∧ Hid (PmI w base g n cap its0 l wr)) (fun iv jv _ => (intOf jv).toNat - (intOf iv).toNat)
  case atStart => exact ⟨a, m, its, rfl, rfl, by omega, by omega, by omega, HI0⟩
  case round =>
    clear HI0
    obtain ⟨i, j, l, rfl, rfl, hi1, hij, hjb, HI⟩ := hrel
    by_cases hlt : i < j
    · obtain ⟨Y, HYe⟩ := hid_ex ((i + j) / 2)
      have hX1 : i ≤ Y := by rw [HYe.out]; omega
      have hX2 : Y < j := by rw [HYe.out]; omega
      have hX3 : ((i : Int) + (j : Int)) / 2 = (Y : Int) := by rw [HYe.out]; omega
      have HX3 : Hid _ := hX3
      have hXn : m < n := by omega
      have hYn : Y < n := by omega
      clear hX3
      obtain ⟨P, pa, pn, pc, hPg, hPc, hPn⟩ := HI.out.nine hXn
      obtain ⟨Q, qa, qn, qc, hQg, hQc, hQn⟩ := HI.out.nine hYn
      have HOD : Hid (∀ V, Below wr.heap.size wr V → Calls Tryz.prog 17 #[.agg #[.slice pa pn pc, .int .i64 P.f, .int .i64 (P.g : Int), .int .u64 P.a.c, .bool P.a.o, .int .i64 (hi P.a.s), .int .u64 (lo P.a.s), .int .i64 P.a.mn, .int .i64 P.a.mx], .agg #[.slice qa qn qc, .int .i64 Q.f, .int .i64 (Q.g : Int), .int .u64 Q.a.c, .bool Q.a.o, .int .i64 (hi Q.a.s), .int .u64 (lo Q.a.s), .int .i64 Q.a.mn, .int .i64 Q.a.mx]] V (OdPost V)) := HI.out.ord hPg hQg hPc hQc
      have HPn : Hid _ := hPn
      have HQn : Hid _ := hQn
      clear hPg hQg hPc hQc hPn hQn
      go_wp2_with fail
      rw [HX3.out]
      refine wp_region_noPanic ?_
      refine wp_region_held_drew (S := (fun w' => Below wr.heap.size wr w')) (by kernel_rfl) ?_ (fun hHeld => ?_)
      · exact (Below.refl _ _).drew
      refine wpAnyH_take (i := 0) (v := .func (.func 17) #[] #[]) rfl (by kernel_rfl) (by kernel_rfl) (by kernel_rfl) (fun _ _ _ h => h) (Or.inl ⟨by rfl, ?_⟩) (by assumption) ?_
      · (intro w1 hSw; (try dsimp only at hSw); go_simp)
      simp only [List.getElem_toArray, List.getElem_cons_zero, Act.put, List.setIfInBounds_toArray, List.set_cons_zero, List.set_cons_succ]
      refine wpAnyH_take (i := 1) (v := .slice (some ⟨g, 0, none⟩) n cap) rfl (by kernel_rfl) (by kernel_rfl) (by kernel_rfl) (fun _ _ _ h => h) (Or.inl ⟨by rfl, ?_⟩) (by assumption) ?_
      · (intro w1 hSw; (try dsimp only at hSw); go_simp)
      simp only [List.getElem_toArray, List.getElem_cons_succ, List.getElem_cons_zero, Act.put, List.setIfInBounds_toArray, List.set_cons_zero, List.set_cons_succ]
      refine wpAnyH_take (i := 2) (v := .int .i64 (m : Int)) rfl (by kernel_rfl) (by kernel_rfl) (by kernel_rfl) (fun _ _ _ h => h) (Or.inl ⟨by rfl, ?_⟩) (by assumption) ?_
      · (intro w1 hSw; (try dsimp only at hSw); go_simp)
      simp only [List.getElem_toArray, List.getElem_cons_succ, List.getElem_cons_zero, Act.put, List.setIfInBounds_toArray, List.set_cons_zero, List.set_cons_succ]
      refine wpAnyH_take (i := 3) (v := .pointer (some ⟨g, m * 9, none⟩)) rfl (by kernel_rfl) (by kernel_rfl) (by kernel_rfl) (fun _ _ _ h => h) (Or.inl ⟨by rfl, ?_⟩) (by assumption) ?_
      · (intro w1 hSw; (try dsimp only at hSw); go_simp)
      simp only [List.getElem_toArray, List.getElem_cons_succ, List.getElem_cons_zero, Act.put, List.setIfInBounds_toArray, List.set_cons_zero, List.set_cons_succ]
      refine wpAnyH_take (i := 4) (v := .agg #[.slice pa pn pc, .int .i64 P.f, .int .i64 (P.g : Int), .int .u64 P.a.c, .bool P.a.o, .int .i64 (hi P.a.s), .int .u64 (lo P.a.s), .int .i64 P.a.mn, .int .i64 P.a.mx]) rfl (by kernel_rfl) (by kernel_rfl) (by kernel_rfl) (fun _ _ _ h => h) (Or.inl ⟨by rfl, ?_⟩) (by assumption) ?_
      · (intro w1 hSw; (try dsimp only at hSw); obtain ⟨c0, c1, c2, c3, c4, c5, c6, c7, c8⟩ := HPn.out _ hSw; go_simp)
      simp only [List.getElem_toArray, List.getElem_cons_succ, List.getElem_cons_zero, Act.put, List.setIfInBounds_toArray, List.set_cons_zero, List.set_cons_succ]
      refine wpAnyH_take (i := 5) (v := .slice (some ⟨g, 0, none⟩) n cap) rfl (by kernel_rfl) (by kernel_rfl) (by kernel_rfl) (fun _ _ _ h => h) (Or.inl ⟨by rfl, ?_⟩) (by assumption) ?_
      · (intro w1 hSw; (try dsimp only at hSw); go_simp)
      simp only [List.getElem_toArray, List.getElem_cons_succ, List.getElem_cons_zero, Act.put, List.setIfInBounds_toArray, List.set_cons_zero, List.set_cons_succ]
      refine wpAnyH_take (i := 6) (v := .int .i64 (Y : Int)) rfl (by kernel_rfl) (by kernel_rfl) (by kernel_rfl) (fun _ _ _ h => h) (Or.inl ⟨by rfl, ?_⟩) (by assumption) ?_
      · (intro w1 hSw; (try dsimp only at hSw); go_simp)
      simp only [List.getElem_toArray, List.getElem_cons_succ, List.getElem_cons_zero, Act.put, List.setIfInBounds_toArray, List.set_cons_zero, List.set_cons_succ]
      refine wpAnyH_take (i := 7) (v := .pointer (some ⟨g, Y * 9, none⟩)) rfl (by kernel_rfl) (by kernel_rfl) (by kernel_rfl) (fun _ _ _ h => h) (Or.inl ⟨by rfl, ?_⟩) (by assumption) ?_
      · (intro w1 hSw; (try dsimp only at hSw); go_simp)
      simp only [List.getElem_toArray, List.getElem_cons_succ, List.getElem_cons_zero, Act.put, List.setIfInBounds_toArray, List.set_cons_zero, List.set_cons_succ]
      refine wpAnyH_take (i := 8) (v := .agg #[.slice qa qn qc, .int .i64 Q.f, .int .i64 (Q.g : Int), .int .u64 Q.a.c, .bool Q.a.o, .int .i64 (hi Q.a.s), .int .u64 (lo Q.a.s), .int .i64 Q.a.mn, .int .i64 Q.a.mx]) rfl (by kernel_rfl) (by kernel_rfl) (by kernel_rfl) (fun _ _ _ h => h) (Or.inl ⟨by rfl, ?_⟩) (by assumption) ?_
      · (intro w1 hSw; (try dsimp only at hSw); obtain ⟨c0, c1, c2, c3, c4, c5, c6, c7, c8⟩ := HQn.out _ hSw; go_simp)
      simp only [List.getElem_toArray, List.getElem_cons_succ, List.getElem_cons_zero, Act.put, List.setIfInBounds_toArray, List.set_cons_zero, List.set_cons_succ]
      refine wpAnyH_ready (rs := [9]) (by kernel_rfl) (by simp) ?_
      refine AllReadyH.cons (o := _) rfl (fun K hK => ?_) AllReadyH.nil
      go_simp
      refine (HOD.out _ (Below.refl _ _).drew).mono ?_
      rintro e w4 ⟨c, rfl, _, _, hb4⟩
      have HW4 : Hid (Below wr.heap.size wr w4) := (Below.refl wr.heap.size wr).drew.trans hb4
      clear hb4
      refine hK.out _ _ ?_ (fun hHeld => ?_)
      · exact HW4.out
      clear hK K
      refine wpAnyH_take (i := 10) (v := .bool (decide (c < 0))) rfl (by kernel_rfl) (by kernel_rfl) (by kernel_rfl) (fun _ _ _ h => h) (Or.inl ⟨by rfl, ?_⟩) (by assumption) ?_
      · (intro w1 hSw; (try dsimp only at hSw); go_simp)
      simp only [List.getElem_toArray, List.getElem_cons_succ, List.getElem_cons_zero, Act.put, List.setIfInBounds_toArray, List.set_cons_zero, List.set_cons_succ]
      refine wpAnyH_take (i := 11) (v := .bool (!(decide (c < 0)))) rfl (by kernel_rfl) (by kernel_rfl) (by kernel_rfl) (fun _ _ _ h => h) (Or.inl ⟨by rfl, ?_⟩) (by assumption) ?_
      · (intro w1 hSw; (try dsimp only at hSw); go_simp)
      simp only [List.getElem_toArray, List.getElem_cons_succ, List.getElem_cons_zero, Act.put, List.setIfInBounds_toArray, List.set_cons_zero, List.set_cons_succ]
      clear hHeld
      refine wpAnyH_done (by kernel_rfl) ?_ _
      refine NoPanic.normal ?_
      have HI4 : Hid (PmI w base g n cap its0 l w4) := HI.out.below HW4.out
      obtain ⟨t, Ht⟩ := hid_ex (decide (c < 0))
      rw [← Ht.out]
      clear Ht HOD HPn HQn
      cases t with
      | true =>
        go_wp2_with fail
        go_roundw
        case rel => exact ⟨i, Y, l, rfl, rfl, by omega, by omega, by omega, HI4⟩
        case measure => simp [intOf]; omega
      | false =>
        go_wp2_with fail
        go_roundw
        case rel => exact ⟨Y + 1, j, l, by go_num, rfl, by omega, by omega, by omega, HI4⟩
        case measure => simp [intOf]; omega
    · go_wp2_with fail
      go_loopw [17] (fun kv wr => ∃ (k : Nat) (l : List It), kv = .int .i64 (k : Int) ∧ i ≤ k ∧ k ≤ m ∧ Hid (PmI w base g n cap its0 l wr)) (fun kv _ => (intOf kv).toNat)
      case atStart => exact ⟨m, l, rfl, by omega, by omega, HI⟩
      case round =>
        clear HI
        obtain ⟨k, l, rfl, hk1, hk2, HI⟩ := hrel
        by_cases hki : i < k
        · obtain ⟨Y, HYe⟩ := hid_ex (k - 1)
          have hXn : k < n := by omega
          have hYn : Y < n := by rw [HYe.out]; omega
          have hyk : i ≤ Y ∧ Y < k ∧ k ≤ Y + 1 := by rw [HYe.out]; omega
          obtain ⟨P, pa, pn, pc, hPg, hPc, hPn⟩ := HI.out.nine hXn
          obtain ⟨Q, qa, qn, qc, hQg, hQc, hQn⟩ := HI.out.nine hYn
          have HPg : Hid _ := hPg
          have HQg : Hid _ := hQg
          have HPc : Hid _ := hPc
          have HQc : Hid _ := hQc
          obtain ⟨c0, c1, c2, c3, c4, c5, c6, c7, c8⟩ := hPn _ (Below.refl _ _)
          obtain ⟨d0, d1, d2, d3, d4, d5, d6, d7, d8⟩ := hQn _ (Below.refl _ _)
          obtain ⟨cur, hcur, hcs⟩ := pmI_row HI.out
          have HCU : Hid _ := hcur
          clear hcur hPg hQg hPc hQc hPn hQn
          go_wp2_with fail
          refine wp_region_noPanic ?_
          refine wp_region_S 15 (fun _ => True) (fun w' => w'.cell? ⟨g, k * 9, none⟩ = some (.slice pa pn pc) ∧ w'.cell? ⟨g, k * 9 + 1, none⟩ = some (.int .i64 P.f) ∧ w'.cell? ⟨g, k * 9 + 2, none⟩ = some (.int .i64 (P.g : Int)) ∧ w'.cell? ⟨g, k * 9 + 3, none⟩ = some (.int .u64 P.a.c) ∧ w'.cell? ⟨g, k * 9 + 4, none⟩ = some (.bool P.a.o) ∧ w'.cell? ⟨g, k * 9 + 5, none⟩ = some (.int .i64 (hi P.a.s)) ∧ w'.cell? ⟨g, k * 9 + 6, none⟩ = some (.int .u64 (lo P.a.s)) ∧ w'.cell? ⟨g, k * 9 + 7, none⟩ = some (.int .i64 P.a.mn) ∧ w'.cell? ⟨g, k * 9 + 8, none⟩ = some (.int .i64 P.a.mx) ∧ w'.cell? ⟨g, Y * 9, none⟩ = some (.slice qa qn qc) ∧ w'.cell? ⟨g, Y * 9 + 1, none⟩ = some (.int .i64 Q.f) ∧ w'.cell? ⟨g, Y * 9 + 2, none⟩ = some (.int .i64 (Q.g : Int)) ∧ w'.cell? ⟨g, Y * 9 + 3, none⟩ = some (.int .u64 Q.a.c) ∧ w'.cell? ⟨g, Y * 9 + 4, none⟩ = some (.bool Q.a.o) ∧ w'.cell? ⟨g, Y * 9 + 5, none⟩ = some (.int .i64 (hi Q.a.s)) ∧ w'.cell? ⟨g, Y * 9 + 6, none⟩ = some (.int .u64 (lo Q.a.s)) ∧ w'.cell? ⟨g, Y * 9 + 7, none⟩ = some (.int .i64 Q.a.mn) ∧ w'.cell? ⟨g, Y * 9 + 8, none⟩ = some (.int .i64 Q.a.mx)) (by kernel_rfl) ?_ ?_ (fun hHeld => ?_)
          · trivial
          · exact ⟨c0, c1, c2, c3, c4, c5, c6, c7, c8, d0, d1, d2, d3, d4, d5, d6, d7, d8⟩
          refine wpAnyS_take (i := 0) (v := .slice (some ⟨g, 0, none⟩) n cap) _ rfl (by kernel_rfl) (by kernel_rfl) (by kernel_rfl) (by kernel_rfl) (by kernel_rfl) rfl (fun _ _ _ h => h) (Or.inl ⟨by rfl, ?_⟩) hHeld (fun hHeld => ?_)
          · (intro w1 hSw; have hSw := hSw.1; (try dsimp only at hSw); go_simp)
          simp only [List.getElem_toArray, List.getElem_cons_zero, Act.put, List.setIfInBounds_toArray, List.set_cons_zero, List.set_cons_succ]
          refine wpAnyS_take (i := 1) (v := .int .i64 (k : Int)) _ rfl (by kernel_rfl) (by kernel_rfl) (by kernel_rfl) (by kernel_rfl) (by kernel_rfl) rfl (fun _ _ _ h => h) (Or.inl ⟨by rfl, ?_⟩) hHeld (fun hHeld => ?_)
          · (intro w1 hSw; have hSw := hSw.1; (try dsimp only at hSw); go_simp)
          simp only [List.getElem_toArray, List.getElem_cons_succ, List.getElem_cons_zero, Act.put, List.setIfInBounds_toArray, List.set_cons_zero, List.set_cons_succ]
          refine wpAnyS_take (i := 2) (v := .slice (some ⟨g, 0, none⟩) n cap) _ rfl (by kernel_rfl) (by kernel_rfl) (by kernel_rfl) (by kernel_rfl) (by kernel_rfl) rfl (fun _ _ _ h => h) (Or.inl ⟨by rfl, ?_⟩) hHeld (fun hHeld => ?_)
          · (intro w1 hSw; have hSw := hSw.1; (try dsimp only at hSw); go_simp)
          simp only [List.getElem_toArray, List.getElem_cons_succ, List.getElem_cons_zero, Act.put, List.setIfInBounds_toArray, List.set_cons_zero, List.set_cons_succ]
          refine wpAnyS_take (i := 3) (v := .int .i64 (k : Int)) _ rfl (by kernel_rfl) (by kernel_rfl) (by kernel_rfl) (by kernel_rfl) (by kernel_rfl) rfl (fun _ _ _ h => h) (Or.inl ⟨by rfl, ?_⟩) hHeld (fun hHeld => ?_)
          · (intro w1 hSw; have hSw := hSw.1; (try dsimp only at hSw); go_simp)
          simp only [List.getElem_toArray, List.getElem_cons_succ, List.getElem_cons_zero, Act.put, List.setIfInBounds_toArray, List.set_cons_zero, List.set_cons_succ]
          refine wpAnyS_take (i := 4) (v := .int .i64 (Y : Int)) _ rfl (by kernel_rfl) (by kernel_rfl) (by kernel_rfl) (by kernel_rfl) (by kernel_rfl) rfl (fun _ _ _ h => h) (Or.inl ⟨by rfl, ?_⟩) hHeld (fun hHeld => ?_)
          · (intro w1 hSw; have hSw := hSw.1; (try dsimp only at hSw); go_simp; (first | (rw [IntKind.wrap_i64]; (try have hq := HXe.out); (try have hr := HYe.out); omega) | ((try have hq := HXe.out); (try have hr := HYe.out); omega)))
          simp only [List.getElem_toArray, List.getElem_cons_succ, List.getElem_cons_zero, Act.put, List.setIfInBounds_toArray, List.set_cons_zero, List.set_cons_succ]
          refine wpAnyS_take (i := 5) (v := .slice (some ⟨g, 0, none⟩) n cap) _ rfl (by kernel_rfl) (by kernel_rfl) (by kernel_rfl) (by kernel_rfl) (by kernel_rfl) rfl (fun _ _ _ h => h) (Or.inl ⟨by rfl, ?_⟩) hHeld (fun hHeld => ?_)
          · (intro w1 hSw; have hSw := hSw.1; (try dsimp only at hSw); go_simp)
          simp only [List.getElem_toArray, List.getElem_cons_succ, List.getElem_cons_zero, Act.put, List.setIfInBounds_toArray, List.set_cons_zero, List.set_cons_succ]
          refine wpAnyS_take (i := 6) (v := .int .i64 (k : Int)) _ rfl (by kernel_rfl) (by kernel_rfl) (by kernel_rfl) (by kernel_rfl) (by kernel_rfl) rfl (fun _ _ _ h => h) (Or.inl ⟨by rfl, ?_⟩) hHeld (fun hHeld => ?_)
          · (intro w1 hSw; have hSw := hSw.1; (try dsimp only at hSw); go_simp)
          simp only [List.getElem_toArray, List.getElem_cons_succ, List.getElem_cons_zero, Act.put, List.setIfInBounds_toArray, List.set_cons_zero, List.set_cons_succ]
          refine wpAnyS_take (i := 7) (v := .int .i64 (Y : Int)) _ rfl (by kernel_rfl) (by kernel_rfl) (by kernel_rfl) (by kernel_rfl) (by kernel_rfl) rfl (fun _ _ _ h => h) (Or.inl ⟨by rfl, ?_⟩) hHeld (fun hHeld => ?_)
          · (intro w1 hSw; have hSw := hSw.1; (try dsimp only at hSw); go_simp; (first | (rw [IntKind.wrap_i64]; (try have hq := HXe.out); (try have hr := HYe.out); omega) | ((try have hq := HXe.out); (try have hr := HYe.out); omega)))
          simp only [List.getElem_toArray, List.getElem_cons_succ, List.getElem_cons_zero, Act.put, List.setIfInBounds_toArray, List.set_cons_zero, List.set_cons_succ]
          refine wpAnyS_take (i := 8) (v := .pointer (some ⟨g, Y * 9, none⟩)) _ rfl (by kernel_rfl) (by kernel_rfl) (by kernel_rfl) (by kernel_rfl) (by kernel_rfl) rfl (fun _ _ _ h => h) (Or.inl ⟨by rfl, ?_⟩) hHeld (fun hHeld => ?_)
          · (intro w1 hSw; have hSw := hSw.1; (try dsimp only at hSw); go_simp)
          simp only [List.getElem_toArray, List.getElem_cons_succ, List.getElem_cons_zero, Act.put, List.setIfInBounds_toArray, List.set_cons_zero, List.set_cons_succ]
          refine wpAnyS_take (i := 9) (v := .agg #[.slice qa qn qc, .int .i64 Q.f, .int .i64 (Q.g : Int), .int .u64 Q.a.c, .bool Q.a.o, .int .i64 (hi Q.a.s), .int .u64 (lo Q.a.s), .int .i64 Q.a.mn, .int .i64 Q.a.mx]) true rfl (by kernel_rfl) (by kernel_rfl) (by kernel_rfl) (by kernel_rfl) (by kernel_rfl) (by kernel_rfl) (fun _ _ _ h => h) (Or.inl ⟨by rfl, ?_⟩) hHeld (fun hHeld => ?_)
          · (intro w1 hSw; have hSw2 := hSw.2 rfl; have hSw := hSw.1; (try dsimp only at hSw hSw2); go_simp)
          simp only [List.getElem_toArray, List.getElem_cons_succ, List.getElem_cons_zero, Act.put, List.setIfInBounds_toArray, List.set_cons_zero, List.set_cons_succ]
          refine wpAnyS_take (i := 10) (v := .slice (some ⟨g, 0, none⟩) n cap) _ rfl (by kernel_rfl) (by kernel_rfl) (by kernel_rfl) (by kernel_rfl) (by kernel_rfl) rfl (fun _ _ _ h => h) (Or.inl ⟨by rfl, ?_⟩) hHeld (fun hHeld => ?_)
          · (intro w1 hSw; have hSw := hSw.1; (try dsimp only at hSw); go_simp)
          simp only [List.getElem_toArray, List.getElem_cons_succ, List.getElem_cons_zero, Act.put, List.setIfInBounds_toArray, List.set_cons_zero, List.set_cons_succ]
          refine wpAnyS_take (i := 11) (v := .int .i64 (k : Int)) _ rfl (by kernel_rfl) (by kernel_rfl) (by kernel_rfl) (by kernel_rfl) (by kernel_rfl) rfl (fun _ _ _ h => h) (Or.inl ⟨by rfl, ?_⟩) hHeld (fun hHeld => ?_)
          · (intro w1 hSw; have hSw := hSw.1; (try dsimp only at hSw); go_simp)
          simp only [List.getElem_toArray, List.getElem_cons_succ, List.getElem_cons_zero, Act.put, List.setIfInBounds_toArray, List.set_cons_zero, List.set_cons_succ]
          refine wpAnyS_take (i := 12) (v := .pointer (some ⟨g, k * 9, none⟩)) _ rfl (by kernel_rfl) (by kernel_rfl) (by kernel_rfl) (by kernel_rfl) (by kernel_rfl) rfl (fun _ _ _ h => h) (Or.inl ⟨by rfl, ?_⟩) hHeld (fun hHeld => ?_)
          · (intro w1 hSw; have hSw := hSw.1; (try dsimp only at hSw); go_simp)
          simp only [List.getElem_toArray, List.getElem_cons_succ, List.getElem_cons_zero, Act.put, List.setIfInBounds_toArray, List.set_cons_zero, List.set_cons_succ]
          refine wpAnyS_take (i := 13) (v := .agg #[.slice pa pn pc, .int .i64 P.f, .int .i64 (P.g : Int), .int .u64 P.a.c, .bool P.a.o, .int .i64 (hi P.a.s), .int .u64 (lo P.a.s), .int .i64 P.a.mn, .int .i64 P.a.mx]) true rfl (by kernel_rfl) (by kernel_rfl) (by kernel_rfl) (by kernel_rfl) (by kernel_rfl) (by kernel_rfl) (fun _ _ _ h => h) (Or.inl ⟨by rfl, ?_⟩) hHeld (fun hHeld => ?_)
          · (intro w1 hSw; have hSw2 := hSw.2 rfl; have hSw := hSw.1; (try dsimp only at hSw hSw2); go_simp)
          simp only [List.getElem_toArray, List.getElem_cons_succ, List.getElem_cons_zero, Act.put, List.setIfInBounds_toArray, List.set_cons_zero, List.set_cons_succ]
          refine wpAnyS_take (i := 14) (v := .pointer (some ⟨g, k * 9, none⟩)) _ rfl (by kernel_rfl) (by kernel_rfl) (by kernel_rfl) (by kernel_rfl) (by kernel_rfl) rfl (fun _ _ _ h => h) (Or.inl ⟨by rfl, ?_⟩) hHeld (fun hHeld => ?_)
          · (intro w1 hSw; have hSw := hSw.1; (try dsimp only at hSw); go_simp)
          simp only [List.getElem_toArray, List.getElem_cons_succ, List.getElem_cons_zero, Act.put, List.setIfInBounds_toArray, List.set_cons_zero, List.set_cons_succ]
          refine wpAnyS_ready (i := 15) (by kernel_rfl) rfl (fun K hK => ?_)
          rw [if_pos (by rfl)]
          refine wp_storeN _ _ _ rfl g (k * 9) [.slice qa qn qc, .int .i64 Q.f, .int .i64 (Q.g : Int), .int .u64 Q.a.c, .bool Q.a.o, .int .i64 (hi Q.a.s), .int .u64 (lo Q.a.s), .int .i64 Q.a.mn, .int .i64 Q.a.mx] rfl rfl cur _ HCU.out (by simp; omega) (by kernel_rfl) (by kernel_rfl) (fun W0 hW0 => ?_)
          refine hK.out _ _ ⟨?_, fun hno => absurd hno (by decide)⟩ (fun hHeld => ?_)
          · trivial
          clear hK K
          refine wpAnyS_take (i := 16) (v := .pointer (some ⟨g, Y * 9, none⟩)) _ rfl (by kernel_rfl) (by kernel_rfl) (by kernel_rfl) (by kernel_rfl) (by kernel_rfl) rfl (fun _ _ _ h => h) (Or.inl ⟨by rfl, ?_⟩) hHeld (fun hHeld => ?_)
          · (intro w1 hSw; have hSw := hSw.1; (try dsimp only at hSw); go_simp)
          simp only [List.getElem_toArray, List.getElem_cons_succ, List.getElem_cons_zero, Act.put, List.setIfInBounds_toArray, List.set_cons_zero, List.set_cons_succ]
          refine wpAnyS_ready (i := 17) (by kernel_rfl) rfl (fun K hK => ?_)
          rw [if_pos (by rfl)]
          obtain ⟨cur2, hcu2, hcz2, _, _⟩ := hW0.c
          refine wp_storeN _ _ _ rfl g (Y * 9) [.slice pa pn pc, .int .i64 P.f, .int .i64 (P.g : Int), .int .u64 P.a.c, .bool P.a.o, .int .i64 (hi P.a.s), .int .u64 (lo P.a.s), .int .i64 P.a.mn, .int .i64 P.a.mx] rfl rfl cur2 _ hcu2 (by simp; omega) (by kernel_rfl) (by kernel_rfl) (fun W1 hW1 => ?_)
          refine hK.out _ _ ⟨?_, fun hno => absurd hno (by decide)⟩ (fun hHeld => ?_)
          · trivial
          clear hK K
          refine wpAnyS_done (by kernel_rfl) ?_ _
          refine NoPanic.normal ?_
          obtain ⟨l', hl'⟩ := (HI.out.below (Below.refl wr.heap.size wr).drew).swap2 HPg.out HQg.out HCU.out (by rw [HQc.out]; exact hW0) hcu2 (by rw [HPc.out]; exact hW1)
          have HN : Hid (PmI w base g n cap its0 l' W1) := hl'
          clear hW0 hW1 hl' c0 c1 c2 c3 c4 c5 c6 c7 c8 d0 d1 d2 d3 d4 d5 d6 d7 d8 hcu2 hcz2 hcs
          go_wp2_with fail
          go_roundw
          case rel => exact ⟨k - 1, l', by go_num, by omega, by omega, HN⟩
          case measure => simp [intOf]; omega
        · have HE : Hid (IsPost w base g n cap its0 (.returned (.tuple #[])) wr) := ⟨⟨_, rfl⟩, l, HI.out⟩
          go_wp2_with fail
          exact bodyPost_ret (results_none rfl _ _ _) rfl HE.out
end Go.Proofs.YtgjcopabmdbenaaGreat
