/- FL10 FL11 FL12 FL13 FL14, joined. -/
import Derived.Test.YthicmbjiblbcmaaGreatTQ26
import Derived.Shelf.Abstract
import Derived.BigQuiet
import Derived.Deep.QuietTactic
/- The contract of fold.Fold; of law15's Great. -/
namespace Go.Proofs.YthicmbjiblbcmaaGreat
open Go.RowKit

/-- What Fold tells. -/
def FoPost (R : Rl) (wm : Int) (L : List En) (w : World) (e : Ending) (w' : World) : Prop :=
  Below w.heap.size w w' ∧ ((chkF R wm L ≠ 0 ∧ e = .returned (.tuple #[.slice none 0 0, .int .i64 (chkF R wm L)])) ∨ (chkF R wm L = 0 ∧ ∃ v, e = .returned (.tuple #[v, .int .i64 0]) ∧ EReads w' v (foldF R wm L)))
set_option maxRecDepth 100000 in
set_option maxHeartbeats 4000000 in
theorem fold_any (R : Rl) (wm : Int) (v : Value) (L : List En) (w : World) (hL : Lies R w.heap.size w) (hE : EReads w v L) (hl : L.length ≤ 100000) (hk : ∀ x ∈ L, x.1.length ≤ 1000) :
    Calls Tryz.prog 12 #[.agg #[.slice R.a R.len R.cap, .int .i64 R.kp], .int .i64 wm, v] w (FoPost R wm L w) := by
  have HE : Hid (EReads w v L) := hE
  have HL : Hid (Lies R w.heap.size w) := hL
  have HK : Hid _ := hk
  obtain ⟨a, cap, rfl, hm1, hm2⟩ := hE.form
  unfold maxLen at hm2
  clear hE hL hk
  obtain ⟨w1, HW1⟩ := hid_ex (w.alloc (.cells #[.slice R.a R.len R.cap, .int .i64 R.kp] 24))
  have hb1 : Below w.heap.size w w1 := by rw [HW1.out]; exact new_below _ _
  have HX1 : Hid (RBox R w.heap.size w1) := by rw [HW1.out]; exact RBox.new R w _
  have HL1 : Hid (Lies R w1.heap.size w1) := HL.out.at hb1
  have HE1 : Hid (EReads w1 (.slice a L.length cap) L) := HE.out.below hb1
  have HB1 : Hid _ := hb1
  clear hb1
  go_enter Tryz.func12, Tryz.ntmps12
  go_wp2_with fail
  rw [← HW1.out]
  clear HW1
  refine (checked_any R wm _ L _ HL1.out HE1.out hl HK.out).mono ?_
  rintro e w2 ⟨hb2, ⟨hne, rfl⟩ | ⟨hz, xa, xc, xs, rfl, ht, hm, hok⟩⟩
  · have hb0 : (chkF R wm L == 0) = false := by simp [hne]
    have HEnd : Hid (FoPost R wm L w (.returned (.tuple #[.slice none 0 0, .int .i64 (chkF R wm L)])) w2) := ⟨HB1.out.trans (hb2.mono HB1.out.size), .inl ⟨hne, rfl⟩⟩
    clear hne hb2
    generalize chkF R wm L = rr at *
    go_wp2_with fail
    go_ret2
    exact HEnd.out
  · obtain ⟨_, hR, hwt, _, _⟩ := chkF_ok hz
    have HZ : Hid (chkF R wm L = 0) := hz
    have HM : Hid (xs.map itE = L) := hm
    have HB2 : Hid (Below w.heap.size w w2) := HB1.out.trans (hb2.mono HB1.out.size)
    have HX2 : Hid (RBox R w.heap.size w2) := HX1.out.below hb2
    have HT : Hid (TReads w2 (.slice xa L.length xc) xs) := ht
    have hxl : xs.length ≤ 100000 := by have h := congrArg List.length hm; simp at h; omega
    have HOK : Hid _ := hok
    have HR : Hid (RightP R) := hR
    have HL2 : Hid (Lies R w2.heap.size w2) := HL.out.at HB2.out
    obtain ⟨r0, r1⟩ := HX2.out.at
    clear hz hb2 ht hm hok hR HB1 HX1 HL1 HE1
    go_wp2_with fail
    refine (folded_any R HR.out wm hwt _ xs _ HL2.out HT.out HOK.out hxl).mono ?_
    rintro e w3 ⟨v', ys, rfl, ho, hm3, hc3, hb3⟩
    have hrd := ho.reads hc3
    rw [hm3, HM.out] at hrd
    have HEnd : Hid (FoPost R wm L w (.returned (.tuple #[v', .int .i64 0])) w3) := ⟨HB2.out.trans (hb3.mono HB2.out.size), .inr ⟨HZ.out, v', rfl, hrd⟩⟩
    obtain ⟨ya, yc, rfl, _⟩ := hrd.form
    clear ho hm3 hc3 hb3 hrd r0 r1
    go_wp2_with fail
    go_ret2
    exact HEnd.out
def okRow15 (r : List En) : Prop := r.length ≤ 60 ∧ ∀ x ∈ r, x.1.length ≤ 300
def Gt15 (L : List En) (w : World) (e : Ending) (w' : World) : Prop := ∃ g : Bool, e = .returned (.bool g) ∧ (g = false → okRow15 L) ∧ w' = w
set_option maxRecDepth 100000 in
set_option maxHeartbeats 2000000 in
theorem great15_any (v : Value) (L : List En) (w : World) (hE : EReads w v L) : Calls Tryz.prog 4 #[v] w (Gt15 L w) := by
  have HE : Hid (EReads w v L) := hE
  obtain ⟨a, cap, rfl, hm1, hm2⟩ := hE.form
  unfold maxLen at hm2
  clear hE
  by_cases h60 : L.length ≤ 60
  · go_enter Tryz.func4, Tryz.ntmps4
    go_wp2_with fail
    go_loopw [3] (fun i wr => ∃ k : Nat, ∃ hk : k ≤ L.length, i = .int .i64 (k : Int) ∧ Hid (∀ j (hj : j < k), (L[j]'(by omega)).1.length ≤ 300) ∧ Hid (wr = w)) (fun i _ => L.length - (intOf i).toNat)
    case atStart => exact ⟨0, by omega, rfl, fun j hj => by omega, rfl⟩
    case round =>
      obtain ⟨k, hk, rfl, HJ, HW⟩ := hrel
      obtain rfl := HW.out
      clear HW
      by_cases hlt : k < L.length
      · obtain ⟨b, off, sa, sc, hef, hcm⟩ := eReads_key HE.out hlt
        subst hef
        have HNJ : Hid (L[k].1.length ≤ 300 → ∀ j (hj : j < k + 1), (L[j]'(by omega)).1.length ≤ 300) := fun h0 j hj => by
          rcases Nat.lt_or_ge j k with h1 | h1
          · exact HJ.out j h1
          · obtain rfl : j = k := by omega
            exact h0
        obtain ⟨X, HX⟩ := hid_ex L[k].1.length
        rw [← HX.out] at hcm HNJ
        by_cases h300 : X ≤ 300
        · have HN2 : Hid _ := HNJ.out h300
          clear HX
          go_wp2_with fail
          go_roundw
          case rel => exact ⟨k + 1, by omega, by go_num, HN2, trivial⟩
          case measure => simp [intOf]; omega
        · clear HX
          go_wp2_with fail
          go_ret
          exact ⟨true, rfl, fun h => (by cases h), rfl⟩
      · obtain rfl : k = L.length := by omega
        go_wp2_with fail
        go_ret
        refine ⟨false, rfl, fun _ => ⟨h60, fun x hx => ?_⟩, rfl⟩
        obtain ⟨j, hj, rfl⟩ := List.getElem_of_mem hx
        exact HJ.out j hj
  · go_enter Tryz.func4, Tryz.ntmps4
    go_wp2_with fail
    go_ret
    exact ⟨true, rfl, fun h => (by cases h), rfl⟩
end Go.Proofs.YthicmbjiblbcmaaGreat

/- Items of one's own; the contract of fold.order. -/
namespace Go.Proofs.YthicmbjiblbcmaaGreat
open Go.RowKit

/-- The numbers of an item are in their reach. -/
structure ItB (x : It) : Prop where
  f1 : -9223372036854775808 ≤ x.f
  f2 : x.f ≤ 9223372036854775807
  g2 : (x.g : Int) ≤ 9223372036854775807
/-- A row of items of one's own, in some order. -/
structure PmI (w : World) (base g n cap : Nat) (its0 its : List It) (W : World) : Prop where
  p : its.Perm its0
  r : W.ownsRow base 75 9 (.slice (some ⟨g, 0, none⟩) n cap) n (its.flatMap c9)
  s : ∀ x ∈ its, SReads W x.v x.D ∧ (0 < x.D.length → ∀ b, x.v.ownBlock = some b → b ≠ g) ∧ ItB x
  b : Below base w W
theorem PmI.len {w : World} {base g n cap : Nat} {its0 its : List It} {W : World} (h : PmI w base g n cap its0 its W) : its.length = n := by
  have := h.r.1
  rw [flat9_len] at this
  omega
theorem PmI.below {w : World} {base g n cap : Nat} {its0 its : List It} {W V : World} (h : PmI w base g n cap its0 its W) (hb : Below W.heap.size W V) : PmI w base g n cap its0 its V :=
  ⟨h.p, row_below h.r hb, fun x hx => ⟨(h.s x hx).1.below hb, (h.s x hx).2⟩, h.b.trans (hb.mono (by
    have h1 := (World.ownsRow.lt h.r g rfl)
    omega))⟩
theorem PmI.cells {w : World} {base g n cap : Nat} {its0 its : List It} {W : World} (h : PmI w base g n cap its0 its W) {j : Nat} (hj : j < its.length) {i : Nat} (hi : i < 9) : W.cell? ⟨g, j * 9 + i, none⟩ = some ((c9 its[j])[i]'hi) := by
  have hl := h.len
  rw [World.ownsRow.cellAt h.r _ (by omega), show j * 9 + i = 9 * j + i by omega, flat9 its j i hj hi, List.getElem?_eq_getElem (show i < (c9 its[j]).length from hi)]
  rfl
theorem row_set9 {w W : World} {base g n cap k : Nat} {cur : Array Value} {ys : List It} {y : It} (h : w.ownsRow base 75 9 (.slice (some ⟨g, 0, none⟩) n cap) n (ys.flatMap c9)) (hcur : w.heap[g]? = some (.cells cur 75))
    (hW : StW w W g (k * 9) cur 75 (c9 y)) (hn : ys.length = n) : W.ownsRow base 75 9 (.slice (some ⟨g, 0, none⟩) n cap) n ((ys.set k y).flatMap c9) := by
  obtain ⟨h1, h2⟩ := h
  refine ⟨by rw [flat9_len, List.length_set, hn], ?_⟩
  rcases h2 with ⟨h2, _⟩ | ⟨g', cap', cur0, hv, hg, hw, hc, hx, hs, ht⟩
  · simp at h2
  · have hv' := hv
    simp at hv'
    obtain ⟨rfl, rfl⟩ := hv'
    obtain rfl : cur0 = cur := by rw [hw] at hcur; simpa using hcur
    obtain ⟨cur', k1, k2, k3, k4⟩ := hW.c
    refine .inr ⟨g, cap, cur', rfl, hg, k1, hc, hx, by omega, ?_⟩
    apply List.ext_getElem?
    intro j
    rw [List.getElem?_take]
    by_cases hj : j < n * 9
    · rw [if_pos hj, Array.getElem?_toList]
      have hj7 : j / 9 < (ys.set k y).length := by simp; omega
      have e1 := flat9 (ys.set k y) (j / 9) (j % 9) hj7 (by omega)
      rw [show 9 * (j / 9) + j % 9 = j by omega] at e1
      rw [e1]
      by_cases hjk : j / 9 = k
      · have e2 : (ys.set k y)[j / 9]'hj7 = y := by simp [hjk]
        rw [e2]
        have := k4 (j % 9) (by rw [c9_len]; omega)
        rw [show k * 9 + j % 9 = j by omega] at this
        rw [this, List.getElem?_eq_getElem]
      · rw [k3 j (by rw [c9_len]; omega)]
        have e2 : (ys.set k y)[j / 9]'hj7 = ys[j / 9]'(by simpa using hj7) := by
          rw [List.getElem_set]; rw [if_neg (fun e => hjk e.symm)]
        rw [e2]
        have e3 := flat9 ys (j / 9) (j % 9) (by simpa using hj7) (by omega)
        rw [show 9 * (j / 9) + j % 9 = j by omega] at e3
        rw [← e3, ← ht, List.getElem?_take, if_pos hj, Array.getElem?_toList]
    · rw [if_neg hj, List.getElem?_eq_none (by rw [flat9_len, List.length_set]; omega)]
theorem sreads_stW {w W : World} {g off : Nat} {cur : Array Value} {T : TypeId} {vs : List Value} {v : Value} {D : List ByteArray} (h : SReads w v D) (hW : StW w W g off cur T vs) (hne : 0 < D.length → ∀ b, v.ownBlock = some b → b ≠ g) : SReads W v D := by
  rcases h with h | ⟨b, o, cap, h1, h2, h3, h4, h5, h6, h7⟩
  · exact .inl h
  · have hb := hne h2 b (by rw [h1]; rfl)
    refine .inr ⟨b, o, cap, h1, h2, h3, h4, Nat.lt_of_lt_of_le h5 (hW.b 0 (Nat.zero_le _)).size, fun j hj => ?_, h7⟩
    rw [← h6 j hj]
    exact World.cell?_of_block (hW.o b hb)
/-- Two items change places. -/
theorem PmI.swap {w : World} {base g n cap : Nat} {its0 its : List It} {A B C : World} {cur : Array Value} {i j : Nat} (h : PmI w base g n cap its0 its A) (hi : i < its.length) (hj : j < its.length) (hcur : A.heap[g]? = some (.cells cur 75)) (hB : StW A B g (i * 9) cur 75 (c9 its[j]))
    (hC : ∀ cur', B.heap[g]? = some (.cells cur' 75) → StW B C g (j * 9) cur' 75 (c9 its[i])) : PmI w base g n cap its0 ((its.set i its[j]).set j its[i]) C := by
  obtain ⟨cur', k1, k2, k3, k4⟩ := hB.c
  have hC' := hC cur' k1
  have hl := h.len
  have hgl := World.ownsRow.lt h.r g rfl
  have r1 := row_set9 h.r hcur hB hl
  have r2 := row_set9 r1 k1 hC' (by simp [hl])
  refine ⟨(List.set_set_perm hi hj).trans h.p, r2, fun x hx => ?_, (h.b.trans (hB.b _ hgl.1)).trans (hC'.b _ hgl.1)⟩
  have hm : x ∈ its := (List.set_set_perm hi hj).mem_iff.1 hx
  have hs := h.s x hm
  exact ⟨sreads_stW (sreads_stW hs.1 hB hs.2.1) hC' hs.2.1, hs.2⟩
end Go.Proofs.YthicmbjiblbcmaaGreat

/- The contract of slices.insertionSortCmpFunc of items. -/
namespace Go.Proofs.YthicmbjiblbcmaaGreat
open Go.RowKit Go.Shelf

end Go.Proofs.YthicmbjiblbcmaaGreat

/- The contract of slices.SortStableFunc of a few items. -/
namespace Go.Proofs.YthicmbjiblbcmaaGreat
open Go.RowKit Go.Shelf

end Go.Proofs.YthicmbjiblbcmaaGreat

/- Facts in memory; what fold.Facts makes of them. -/
namespace Go.Proofs.YthicmbjiblbcmaaGreat
open Go.RowKit Go.Shelf

/-- A fact. -/
structure Fa where
  v : Value
  D : List ByteArray
  t : Int
  x : Int
def c3 (f : Fa) : List Value := [f.v, .int .i64 f.t, .int .i64 f.x]
structure FaB (f : Fa) : Prop where
  t1 : -9223372036854775808 ≤ f.t
  t2 : f.t ≤ 9223372036854775807
  x1 : -9223372036854775808 ≤ f.x
  x2 : f.x ≤ 9223372036854775807
/-- A slice reads these facts. -/
def FReads (w : World) (v : Value) (fs : List Fa) : Prop :=
  ∃ a cap, v = .slice a fs.length cap ∧ fs.length ≤ cap ∧ cap ≤ maxLen ∧ (fs = [] ∨ ∃ b off, a = some ⟨b, off, none⟩ ∧ b < w.heap.size ∧ ∀ j (hj : j < fs.length), (∀ i (hi : i < 3), w.cell? ⟨b, off + j * 3 + i, none⟩ = some ((c3 fs[j])[i]'hi)) ∧ SReads w fs[j].v fs[j].D ∧ FaB fs[j])
theorem FReads.below {w w' : World} {v : Value} {fs : List Fa} (h : FReads w v fs) (hb : Below w.heap.size w w') : FReads w' v fs := by
  obtain ⟨a, cap, rfl, h1, h2, h3⟩ := h
  refine ⟨a, cap, rfl, h1, h2, ?_⟩
  rcases h3 with h3 | ⟨b, off, h4, h5, h6⟩
  · exact .inl h3
  · refine .inr ⟨b, off, h4, Nat.lt_of_lt_of_le h5 hb.size, fun j hj => ?_⟩
    obtain ⟨g1, g2, g3⟩ := h6 j hj
    exact ⟨fun i hi => (hb.cell (p := ⟨b, off + j * 3 + i, none⟩) h5).trans (g1 i hi), g2.below hb, g3⟩
theorem FReads.form {w : World} {v : Value} {fs : List Fa} (h : FReads w v fs) : ∃ a cap, v = .slice a fs.length cap ∧ fs.length ≤ cap ∧ cap ≤ maxLen := by
  obtain ⟨a, cap, rfl, h1, h2, _⟩ := h
  exact ⟨a, cap, rfl, h1, h2⟩
theorem FReads.at {w : World} {a : Option Addr} {n cap : Nat} {fs : List Fa} (h : FReads w (.slice a n cap) fs) {j : Nat} (hj : j < fs.length) : ∃ b off, a = some ⟨b, off, none⟩ ∧ b < w.heap.size ∧ (∀ i (hi : i < 3), w.cell? ⟨b, off + j * 3 + i, none⟩ = some ((c3 fs[j])[i]'hi)) ∧ SReads w fs[j].v fs[j].D ∧ FaB fs[j] := by
  obtain ⟨a', cap', hv, _, _, h3⟩ := h
  simp at hv
  obtain ⟨rfl, rfl, rfl⟩ := hv
  rcases h3 with rfl | ⟨b, off, rfl, h5, h6⟩
  · simp at hj
  · exact ⟨b, off, rfl, h5, (h6 j hj).1, (h6 j hj).2.1, (h6 j hj).2.2⟩
/-- May it be a fact? -/
def mayF (f : Fa) : Bool := isT f.t && mayB f.D
def fcI (R : Rl) (f : Fa) : It := ⟨f.v, f.D, f.t - f.t % R.sz 0, 0, oneF f.x⟩
/-- What the loop of Facts keeps: items of one's own. -/
structure FcI (R : Rl) (w w1 : World) (fs : List Fa) (k : Nat) (v : Value) (wr : World) : Prop where
  r : wr.ownsRow w1.heap.size 75 9 v k (((fs.take k).map (fcI R)).flatMap c9)
  m : ∀ j (hj : j < fs.length), j < k → mayF fs[j] = true
  b : Below w1.heap.size w1 wr
theorem FcI.below {R : Rl} {w w1 : World} {fs : List Fa} {k : Nat} {v : Value} {wr W : World} (h : FcI R w w1 fs k v wr) (hb : Below wr.heap.size wr W) : FcI R w w1 fs k v W := ⟨row_below h.r hb, h.m, h.b.trans (hb.mono h.b.size)⟩
end Go.Proofs.YthicmbjiblbcmaaGreat
