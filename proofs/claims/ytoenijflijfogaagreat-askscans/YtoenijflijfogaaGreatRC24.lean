/- FL16 R1g OR FA0 AQ0, joined. -/
import Derived.Test.YtoenijflijfogaaGreatRC7
import Derived.Test.YtoenijflijfogaaGreatRC11
import Derived.Test.YtoenijflijfogaaGreatRC22
import Derived.Test.YtoenijflijfogaaGreatRC23
import Derived.Test.YtoenijflijfogaaGreatRows
import Derived.WalkKit
import Derived.ProofKit
import Derived.OpenShut
import Derived.Lib.SmallJoins
import Derived.Deep.SlicePairs
/- The contract of law15's Rules and alive. -/
namespace Go.Proofs.YtoenijflijfogaaGreat
open Go.RowKit Go.Shelf

def sz15 : Nat → Int | 0 => 1 | _ => 10
def ag15 : Nat → Int | 0 => 0 | _ => 20
def rl15 (b : Nat) : Rl := ⟨some ⟨b, 0, none⟩, 2, 2, sz15, ag15, 100⟩
theorem right15 (b : Nat) : RightP (rl15 b) := by
  refine ⟨by show (1 : Nat) ≤ 2; omega, by show (2 : Nat) ≤ 4; omega, rfl, fun i hi => ?_, by show (20 : Int) ≤ 100; decide, by show (100 : Int) ≤ 2199023255552; decide⟩
  have hi2 : i < 2 := hi
  match i, hi2 with
  | 0, _ => exact ⟨by show isS 1 = true; decide, by show isT 0 = true; decide, fun h => by omega⟩
  | 1, _ => exact ⟨by show isS 10 = true; decide, by show isT 20 = true; decide, fun _ => by show folB 1 0 10 20 = true; decide⟩
set_option maxRecDepth 100000 in
theorem rules_any (w : World) : Calls Tryz.prog 20 #[] w fun e w' => ∃ b, e = .returned (.agg #[.slice (some ⟨b, 0, none⟩) 2 2, .int .i64 100]) ∧ Lies (rl15 b) w'.heap.size w' ∧ Below w.heap.size w w' := by
  go_enter Tryz.func20, Tryz.ntmps20
  go_wp2_with fail
  refine bodyPost_ret (v := .agg #[.slice (some ⟨w.heap.size + 1, 0, none⟩) 2 2, .int .i64 100]) (by simp [results, Tryz.results20, go_sem]) rfl ⟨w.heap.size + 1, rfl, ?_, ((Below.refl _ _).alloc (Nat.le_refl _) _).alloc (by simp) _⟩
  refine ⟨by show 2 ≤ maxLen; decide, Nat.le_refl _, .inr ⟨w.heap.size + 1, 0, rfl, by simp, fun i hi => ?_⟩⟩
  have hi' : i < 2 := hi
  match i, hi' with
  | 0, _ => simp [go_sem, rl15, sz15, ag15]
  | 1, _ => simp [go_sem, rl15, sz15, ag15]
end Go.Proofs.YtoenijflijfogaaGreat

/- A cell that is there lies in a block that is there. -/
namespace Go.Proofs.YtoenijflijfogaaGreat
open Go.RowKit
end Go.Proofs.YtoenijflijfogaaGreat

/- Rules, as an argument by value: the value written out, and where the steps lie. -/
namespace Go.Proofs.YtoenijflijfogaaGreat
open Go.ChangeShapes Go.WideShapes Go.ChangeAt Go.RowKit Go.Joins Go.Deep

set_option maxRecDepth 100000 in
theorem openR {H : Type} {enc : TypeId × Value → H} {W : World} {r : Reach} {b0 base : Nat} {spare : Nat → Bool} {held : Bool} {v : Value} {d : DataW H} {p : List MemPlace}
    (hv : Value.okWide Tryz.prog W r b0 24 v) (h : DataW.Trod enc Tryz.prog W base spare held 24 v d p) :
    ∃ R : Rl, v = .agg #[.slice R.a R.len R.cap, .int .i64 R.kp] ∧ Lies R W.heap.size W := by
  obtain ⟨v0, v1, y0, y1, n, rfl, _, _, h0, h1⟩ := open_agg2 Tryz.underlying24 (by kernel_rfl) (by kernel_rfl) hv h
  obtain ⟨kp, e1, _, _⟩ := DataW.trod_int Tryz.underlying2 h1
  simp at e1
  subst e1
  rcases open_slice_pairs Tryz.underlying22 Tryz.underlying87 (by kernel_rfl) rfl rfl (by kernel_rfl) (by kernel_rfl) h0 with ⟨hcs, _⟩ | ⟨a, len, cap, m, k, V0, V1, D0, D1, P0, P1, hcs, _, hl, hm, hmm, _, hx⟩
  · simp at hcs
    subst hcs
    exact ⟨⟨none, 0, 0, fun _ => 0, fun _ => 0, kp⟩, rfl, Nat.zero_le _, Nat.le_refl _, .inl rfl⟩
  · simp at hcs
    subst hcs
    have hlm : len ≤ m := by rw [hmm]; split <;> omega
    have ints : ∀ i, i < m → ∃ x y, V0 i = .int .i64 x ∧ V1 i = .int .i64 y := by
      intro i hi
      obtain ⟨_, _, g0, g1⟩ := hx i hi
      obtain ⟨x, q0, _, _⟩ := DataW.trod_int Tryz.underlying2 g0
      obtain ⟨y, q1, _, _⟩ := DataW.trod_int Tryz.underlying2 g1
      simp at q0 q1
      exact ⟨x, y, q0, q1⟩
    let f : Nat → Int := fun i => intOf (V0 i)
    let g : Nat → Int := fun i => intOf (V1 i)
    refine ⟨⟨some a, len, cap, f, g, kp⟩, rfl, by show len ≤ maxLen; omega, Nat.le_refl _, ?_⟩
    rcases Nat.eq_zero_or_pos len with h00 | h00
    · exact .inl h00
    · right
      obtain ⟨c0, _, _, _⟩ := hx 0 (by omega)
      have e0 : a.add (0 * 2) = a := by simp [Addr.add]
      rw [e0] at c0
      obtain ⟨hb, hs⟩ := cell_block c0
      obtain ⟨b, off, spot⟩ := a
      simp only at hb hs
      subst hs
      refine ⟨b, off, rfl, hb, fun i hi => ?_⟩
      have hi' : i < len := hi
      obtain ⟨x, y, q0, q1⟩ := ints i (by omega)
      obtain ⟨d0, d1, _, _⟩ := hx i (by omega)
      have ea : (⟨b, off, none⟩ : Addr).add (i * 2) = ⟨b, off + i * 2, none⟩ := by simp [Addr.add]
      have eb : (⟨b, off, none⟩ : Addr).add (i * 2 + 1) = ⟨b, off + i * 2 + 1, none⟩ := by simp [Addr.add]; omega
      rw [ea] at d0
      rw [eb] at d1
      refine ⟨?_, ?_⟩
      · rw [d0, q0]; show _ = some (Value.int .i64 (intOf (V0 i))); rw [q0]; rfl
      · rw [d1, q1]; show _ = some (Value.int .i64 (intOf (V1 i))); rw [q1]; rfl
end Go.Proofs.YtoenijflijfogaaGreat

/- Entries and facts as arguments; what the laws of fold ask of its contracts. -/
namespace Go.Proofs.YtoenijflijfogaaGreat
open Go.ChangeShapes Go.WideShapes Go.ChangeAt Go.RowKit Go.Joins

set_option maxRecDepth 100000 in
theorem openE {H : Type} {enc : TypeId × Value → H} {W : World} {r : Reach} {b0 base : Nat} {spare : Nat → Bool} {held : Bool} {v : Value} {d : DataW H} {p : List MemPlace}
    (hv : Value.okWide Tryz.prog W r b0 25 v) (h : DataW.Trod enc Tryz.prog W base spare held 25 v d p) : ∃ L : List En, EReads W v L := by
  obtain ⟨a, len, cap, rfl⟩ := okWide_slice Tryz.underlying25 hv
  obtain ⟨fuel, hf⟩ := h
  obtain ⟨v', L, hcs, hr⟩ := openEs (fuel := fuel) (by simpa [Value.cells] using hf)
  simp at hcs
  subst hcs
  exact ⟨L, hr⟩
theorem jb_short : ∀ (D : List ByteArray), (∀ s ∈ D, s.size ≤ 16) → (jb D).length ≤ 35 * D.length
  | [], _ => by simp [jb]
  | s :: D, h => by
    have h1 := jb_short D (fun t ht => h t (List.mem_cons_of_mem _ ht))
    have h2 := h s (List.mem_cons_self ..)
    have h3 := tx_len s.data.toList
    have h4 : s.data.toList.length = s.size := by simp
    rw [jb_cons]
    simp only [List.length_cons, List.length_append]
    omega
/-- A key of the rules is short. -/
theorem fit_short {R : Rl} {k : Ks} (h : FitK R k) : k.length ≤ 1000 := by
  obtain ⟨D, f, g, hr, _⟩ := h
  obtain ⟨h1, h2⟩ := rdF_taken hr
  obtain ⟨hm, _⟩ := right_facts h1
  have hmm := mayB_iff.1 hm
  have h3 := jb_short D hmm.2
  have h4 := hmm.1
  rw [← h2, kb_len]
  unfold jn
  rw [List.length_append]
  simp only [List.length_cons, List.length_nil]
  omega
theorem fit_gd {R : Rl} {L : List En} (h : FitL R L) (hc : ∀ x ∈ L, CnOk x.2) : GdE L := fun x hx => ⟨hc x hx, (h x hx).r, fun h0 => absurd h0 (h x hx).c⟩
end Go.Proofs.YtoenijflijfogaaGreat

/- Layer 17: rows of nine cells, as fold's items; what rows are, plainly. -/
namespace Go.Proofs.YtoenijflijfogaaGreat
open Go.RowKit

theorem infoRw : (Tryz.prog.info? 38).map (fun i => (i.zero, i.size, i.bytes)) = some (some (.agg #[.slice none 0 0, .int .i64 0, .int .i64 0, .int .u64 0, .bool false, .int .i64 0, .int .u64 0, .int .i64 0, .int .i64 0]), 9, 88) := by kernel_rfl
def itZ : It := ⟨.slice none 0 0, [], 0, 0, ⟨0, false, 0, 0, 0⟩⟩
theorem made9 : ∀ n : Nat, (madeCells (Value.agg #[.slice none 0 0, .int .i64 0, .int .i64 0, .int .u64 0, .bool false, .int .i64 0, .int .u64 0, .int .i64 0, .int .i64 0]).cells (n * 9)).toList = (List.replicate n itZ).flatMap c9 := by
  intro n
  apply List.ext_getElem?
  intro j
  by_cases hj : j < n * 9
  · have h1 : j / 9 < (List.replicate n itZ).length := by simp; omega
    have h2 := flat9 (List.replicate n itZ) (j / 9) (j % 9) h1 (by omega)
    rw [show 9 * (j / 9) + j % 9 = j by omega] at h2
    rw [h2]
    have h3 : (List.replicate n itZ)[j / 9]'h1 = itZ := by simp
    rw [h3]
    have h4 : j % 9 < 9 := by omega
    simp only [madeCells, Value.cells]
    rw [Array.getElem?_toList]
    simp [hj]
    have : ∀ r : Fin 9, (#[Value.slice none 0 0, .int .i64 0, .int .i64 0, .int .u64 0, .bool false, .int .i64 0, .int .u64 0, .int .i64 0, .int .i64 0] : Array Value)[r.val]? = (c9 itZ)[r.val]? := by
      intro r
      match r with
      | 0 | 1 | 2 | 3 | 4 | 5 | 6 | 7 | 8 => rfl
    have h5 := this ⟨j % 9, h4⟩
    simp only [] at h5
    rw [← h5]
    simp [h4]
  · rw [List.getElem?_eq_none (by simp [madeCells]; omega), List.getElem?_eq_none]
    rw [flat9_len]; simp; omega
theorem row_setT {w W : World} {T : TypeId} {base g n cap k : Nat} {cur : Array Value} {ys : List It} {y : It} (h : w.ownsRow base T 9 (.slice (some ⟨g, 0, none⟩) n cap) n (ys.flatMap c9)) (hcur : w.heap[g]? = some (.cells cur T))
    (hW : StW w W g (k * 9) cur T (c9 y)) (hn : ys.length = n) : W.ownsRow base T 9 (.slice (some ⟨g, 0, none⟩) n cap) n ((ys.set k y).flatMap c9) := by
  obtain ⟨h1, h2⟩ := h
  refine ⟨by rw [flat9_len, List.length_set, hn], ?_⟩
  rcases h2 with ⟨h2, _⟩ | ⟨g', cap', cur0, hv, hg, hw, hc, hx, hs, ht⟩
  · simp at h2
  · have hv' := hv
    simp at hv'
    obtain ⟨rfl, rfl⟩ := hv'
    obtain rfl : cur0 = cur := by rw [hw] at hcur; simpa using hcur
    obtain ⟨cur', k1, k2, k3, k4⟩ := hW.c
    refine .inr ⟨g, cap, cur', rfl, hg, k1, hc, hx, by omega, ?_⟩
    apply List.ext_getElem?
    intro j
    rw [List.getElem?_take]
    by_cases hj : j < n * 9
    · rw [if_pos hj, Array.getElem?_toList]
      have hj7 : j / 9 < (ys.set k y).length := by simp; omega
      have e1 := flat9 (ys.set k y) (j / 9) (j % 9) hj7 (by omega)
      rw [show 9 * (j / 9) + j % 9 = j by omega] at e1
      rw [e1]
      by_cases hjk : j / 9 = k
      · have e2 : (ys.set k y)[j / 9]'hj7 = y := by simp [hjk]
        rw [e2]
        have := k4 (j % 9) (by rw [c9_len]; omega)
        rw [show k * 9 + j % 9 = j by omega] at this
        rw [this, List.getElem?_eq_getElem]
      · rw [k3 j (by rw [c9_len]; omega)]
        have e2 : (ys.set k y)[j / 9]'hj7 = ys[j / 9]'(by simpa using hj7) := by
          rw [List.getElem_set]; rw [if_neg (fun e => hjk e.symm)]
        rw [e2]
        have e3 := flat9 ys (j / 9) (j % 9) (by simpa using hj7) (by omega)
        rw [show 9 * (j / 9) + j % 9 = j by omega] at e3
        rw [← e3, ← ht, List.getElem?_take, if_pos hj, Array.getElem?_toList]
    · rw [if_neg hj, List.getElem?_eq_none (by rw [flat9_len, List.length_set]; omega)]
theorem tReadsT {w : World} {T : TypeId} {base g n cap : Nat} {xs : List It} (h : w.ownsRow base T 9 (.slice (some ⟨g, 0, none⟩) n cap) n (xs.flatMap c9)) (hn : xs.length = n) (hs : ∀ x ∈ xs, SReads w x.v x.D) : TReads w (.slice (some ⟨g, 0, none⟩) n cap) xs := by
  have hlt := World.ownsRow.lt h g rfl
  have h0 := h
  rcases h.2 with ⟨q, _⟩ | ⟨g', cap', cur, q, _, _, hc, hm, _⟩
  · simp at q
  · simp at q
    obtain ⟨rfl, rfl⟩ := q
    refine ⟨_, cap, by rw [hn], by omega, hm, ?_⟩
    rcases Nat.eq_zero_or_pos xs.length with hz | hz
    · exact .inl (List.length_eq_zero_iff.1 hz)
    · refine .inr ⟨g, 0, rfl, hlt.2, fun j hj => ⟨fun i hi => ?_, hs _ (List.getElem_mem hj)⟩⟩
      rw [show 0 + j * 9 + i = 9 * j + i by omega, World.ownsRow.cellAt h0 _ (by omega), flat9 xs j i hj hi, List.getElem?_eq_getElem (show i < (c9 xs[j]).length from hi)]
      rfl
/-! plainly -/
/-- A row as it is told. -/
structure Rw where
  D : List ByteArray
  f : Int
  z : Nat
  a : Ag
def rwZ : Rw := ⟨[], 0, 0, ⟨0, false, 0, 0, 0⟩⟩
/-- The row of a folded entry. -/
def rowE (R : Rl) (x : En) : Rw := match rdF x.1 with
  | some (D, f, g) => ⟨D, f, (R.sz g.toNat).toNat, x.2⟩
  | none => rwZ
theorem rowE_of {R : Rl} {x : En} {D : List ByteArray} {f g : Int} (h : rdF x.1 = some (D, f, g)) : rowE R x = ⟨D, f, (R.sz g.toNat).toNat, x.2⟩ := by unfold rowE; rw [h]
noncomputable def rowsE (R : Rl) (wm : Int) (L : List En) : List Rw := (foldF R wm L).map (rowE R)
def itR (x : It) : Rw := ⟨x.D, x.f, x.g, x.a⟩
/-- What is right of every row. -/
structure RwOk (x : It) : Prop where
  m : mayB x.D = true
  f : 0 ≤ x.f ∧ x.f ≤ 1099511627776
  z : 1 ≤ x.g ∧ x.g ≤ 1099511627776
  a : Gd x.a
  c : x.a.c ≠ 0
/-- The keys of what is folded are of the rules. -/
theorem folded_fit {R : Rl} {wm : Int} {L : List En} (hz : chkF R wm L = 0) (hc : ∀ x ∈ L, CnOk x.2) : ∀ x ∈ foldF R wm L, (FitE R x ∧ Gd x.2) ∧ x.1.length ≤ 1000 := by
  obtain ⟨_, hR, _, _, hf⟩ := chkF_ok hz
  have hg := fit_gd hf hc
  have h1 := foldF_fit hR (w := wm) hg hf
  have h2 := foldF_gd (R := R) (w := wm) hg
  exact fun x hx => ⟨⟨h1 x hx, h2 x hx⟩, fit_short (h1 x hx).k⟩
theorem fit_row {R : Rl} (hR : RightP R) {x : En} (h : FitE R x) : ∃ D f, ∃ g : Nat, rdF x.1 = some (D, f, (g : Int)) ∧ g < R.len ∧ mayB D = true ∧ 0 ≤ f ∧ f ≤ 1099511627776 ∧ 1 ≤ R.sz g ∧ R.sz g ≤ 1099511627776 ∧ g ≤ 3 := by
  obtain ⟨D, f, g, hr, hb⟩ := h.k
  obtain ⟨h1, h2, h3, h4, h5⟩ := rdF_key hr
  have hgl := hb.gl
  have hs := (hR.2.2.2.1 g.toNat hgl).1
  unfold isS at hs
  simp only [Bool.and_eq_true, decide_eq_true_eq] at hs
  refine ⟨D, f, g.toNat, by rw [hr, Int.toNat_of_nonneg h4], hgl, h1, h2, h3, hs.1, hs.2, by omega⟩
end Go.Proofs.YtoenijflijfogaaGreat
