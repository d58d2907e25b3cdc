/- FL10 FL11 FL12 FL13 FL14, joined. -/
import Derived.Test.YtgjcopabmdbenaaGreatQZ26
import Derived.Shelf.Abstract
import Derived.BigQuiet
import Derived.Deep.QuietTactic
/- The contract of fold.Fold; of law15's Great. -/
namespace Go.Proofs.YtgjcopabmdbenaaGreat
open Go.RowKit

/-- What Fold tells. -/
def FoPost (R : Rl) (wm : Int) (L : List En) (w : World) (e : Ending) (w' : World) : Prop :=
  Below w.heap.size w w' ∧ ((chkF R wm L ≠ 0 ∧ e = .returned (.tuple #[.slice none 0 0, .int .i64 (chkF R wm L)])) ∨ (chkF R wm L = 0 ∧ ∃ v, e = .returned (.tuple #[v, .int .i64 0]) ∧ EReads w' v (foldF R wm L)))
set_option maxRecDepth 100000 in
set_option maxHeartbeats 4000000 in
theorem fold_any (R : Rl) (wm : Int) (v : Value) (L : List En) (w : World) (hL : Lies R w.heap.size w) (hE : EReads w v L) (hl : L.length ≤ 100000) (hk : ∀ x ∈ L, x.1.length ≤ 1000) :
    Calls Tryz.prog 10 #[.agg #[.slice R.a R.len R.cap, .int .i64 R.kp], .int .i64 wm, v] w (FoPost R wm L w) := by
  have HE : Hid (EReads w v L) := hE
  have HL : Hid (Lies R w.heap.size w) := hL
  have HK : Hid _ := hk
  obtain ⟨a, cap, rfl, hm1, hm2⟩ := hE.form
  unfold maxLen at hm2
  clear hE hL hk
  obtain ⟨w1, HW1⟩ := hid_ex (w.alloc (.cells #[.slice R.a R.len R.cap, .int .i64 R.kp] 24))
  have hb1 : Below w.heap.size w w1 := by rw [HW1.out]; exact new_below _ _
  have HX1 : Hid (RBox R w.heap.size w1) := by rw [HW1.out]; exact RBox.new R w _
  have HL1 : Hid (Lies R w1.heap.size w1) := HL.out.at hb1
  have HE1 : Hid (EReads w1 (.slice a L.length cap) L) := HE.out.below hb1
  have HB1 : Hid _ := hb1
  clear hb1
  go_enter Tryz.func10, Tryz.ntmps10
  go_wp2_with fail
  rw [← HW1.out]
  clear HW1
  refine (checked_any R wm _ L _ HL1.out HE1.out hl HK.out).mono ?_
  rintro e w2 ⟨hb2, ⟨hne, rfl⟩ | ⟨hz, xa, xc, xs, rfl, ht, hm, hok⟩⟩
  · have hb0 : (chkF R wm L == 0) = false := by simp [hne]
    have HEnd : Hid (FoPost R wm L w (.returned (.tuple #[.slice none 0 0, .int .i64 (chkF R wm L)])) w2) := ⟨HB1.out.trans (hb2.mono HB1.out.size), .inl ⟨hne, rfl⟩⟩
    clear hne hb2
    generalize chkF R wm L = rr at *
    go_wp2_with fail
    go_ret2
    exact HEnd.out
  · obtain ⟨_, hR, hwt, _, _⟩ := chkF_ok hz
    have HZ : Hid (chkF R wm L = 0) := hz
    have HM : Hid (xs.map itE = L) := hm
    have HB2 : Hid (Below w.heap.size w w2) := HB1.out.trans (hb2.mono HB1.out.size)
    have HX2 : Hid (RBox R w.heap.size w2) := HX1.out.below hb2
    have HT : Hid (TReads w2 (.slice xa L.length xc) xs) := ht
    have hxl : xs.length ≤ 100000 := by have h := congrArg List.length hm; simp at h; omega
    have HOK : Hid _ := hok
    have HR : Hid (RightP R) := hR
    have HL2 : Hid (Lies R w2.heap.size w2) := HL.out.at HB2.out
    obtain ⟨r0, r1⟩ := HX2.out.at
    clear hz hb2 ht hm hok hR HB1 HX1 HL1 HE1
    go_wp2_with fail
    refine (folded_any R HR.out wm hwt _ xs _ HL2.out HT.out HOK.out hxl).mono ?_
    rintro e w3 ⟨v', ys, rfl, ho, hm3, hc3, hb3⟩
    have hrd := ho.reads hc3
    rw [hm3, HM.out] at hrd
    have HEnd : Hid (FoPost R wm L w (.returned (.tuple #[v', .int .i64 0])) w3) := ⟨HB2.out.trans (hb3.mono HB2.out.size), .inr ⟨HZ.out, v', rfl, hrd⟩⟩
    obtain ⟨ya, yc, rfl, _⟩ := hrd.form
    clear ho hm3 hc3 hb3 hrd r0 r1
    go_wp2_with fail
    go_ret2
    exact HEnd.out
def okRow15 (r : List En) : Prop := r.length ≤ 60 ∧ ∀ x ∈ r, x.1.length ≤ 300
def Gt15 (L : List En) (w : World) (e : Ending) (w' : World) : Prop := ∃ g : Bool, e = .returned (.bool g) ∧ (g = false → okRow15 L) ∧ w' = w
end Go.Proofs.YtgjcopabmdbenaaGreat

/- Items of one's own; the contract of fold.order. -/
namespace Go.Proofs.YtgjcopabmdbenaaGreat
open Go.RowKit

def itK (x : It) : Ky := ⟨x.v, x.D, x.f, (x.g : Int)⟩
/-- An item as a value. -/
def itV (x : It) : Value := .agg #[x.v, .int .i64 x.f, .int .i64 (x.g : Int), .int .u64 x.a.c, .bool x.a.o, .int .i64 (hi x.a.s), .int .u64 (lo x.a.s), .int .i64 x.a.mn, .int .i64 x.a.mx]
/-- The numbers of an item are in their reach. -/
structure ItB (x : It) : Prop where
  f1 : -9223372036854775808 ≤ x.f
  f2 : x.f ≤ 9223372036854775807
  g2 : (x.g : Int) ≤ 9223372036854775807
theorem itK_lies {x : It} {w : World} (h : SReads w x.v x.D) (hb : ItB x) : KLies (itK x) w := ⟨h, hb.f1, hb.f2, by show (-9223372036854775808 : Int) ≤ (x.g : Int); omega, hb.g2⟩
def OdPost (w : World) (e : Ending) (w' : World) : Prop := ∃ c : Int, e = .returned (.int .i64 c) ∧ -1 ≤ c ∧ c ≤ 1 ∧ Below w.heap.size w w'
theorem nine_box {w : World} {a b : List Value} {t : TypeId} : ((w.alloc (.cells a.toArray t)).alloc (.cells b.toArray t)).heap[w.heap.size]? = some (.cells a.toArray t) ∧ ((w.alloc (.cells a.toArray t)).alloc (.cells b.toArray t)).heap[w.heap.size + 1]? = some (.cells b.toArray t) := by
  constructor
  · rw [Below.heap_alloc _ _ _ (by simp)]; exact heap_alloc_new _ _
  · have := heap_alloc_new (w.alloc (.cells a.toArray t)) (.cells b.toArray t)
    simpa using this
set_option maxRecDepth 100000 in
set_option maxHeartbeats 2000000 in
theorem order15_any (x y : It) (w : World) (hx : SReads w x.v x.D) (hy : SReads w y.v y.D) (bx : ItB x) (by' : ItB y) :
    Calls Tryz.prog 17 #[itV x, itV y] w (OdPost w) := by
  obtain ⟨xa, xc, hxv, _⟩ := hx.form
  obtain ⟨ya, yc, hyv, _⟩ := hy.form
  obtain ⟨w2, HW2⟩ := hid_ex ((w.alloc (.cells (c9 x).toArray 59)).alloc (.cells (c9 y).toArray 59))
  have HB2 : Hid (Below w.heap.size w w2) := by rw [HW2.out]; exact ((Below.refl _ _).alloc (Nat.le_refl _) _).alloc (by simp) _
  have HKX : Hid (∀ W, Below w2.heap.size w2 W → KLies (itK x) W) := fun W hW => itK_lies (hx.below (HB2.out.trans (hW.mono HB2.out.size))) bx
  have HKY : Hid (∀ W, Below w2.heap.size w2 W → KLies (itK y) W) := fun W hW => itK_lies (hy.below (HB2.out.trans (hW.mono HB2.out.size))) by'
  obtain ⟨q1, q2⟩ := nine_box (w := w) (a := c9 x) (b := c9 y) (t := 59)
  rw [← HW2.out] at q1 q2
  have HCX : Hid (∀ W, Below w2.heap.size w2 W → W.cell? ⟨w.heap.size, 0, none⟩ = some x.v ∧ W.cell? ⟨w.heap.size, 1, none⟩ = some (.int .i64 x.f) ∧ W.cell? ⟨w.heap.size, 2, none⟩ = some (.int .i64 (x.g : Int)) ∧ W.cell? ⟨w.heap.size + 1, 0, none⟩ = some y.v ∧ W.cell? ⟨w.heap.size + 1, 1, none⟩ = some (.int .i64 y.f) ∧ W.cell? ⟨w.heap.size + 1, 2, none⟩ = some (.int .i64 (y.g : Int))) := fun W hW => by
    have p1 := (hW.block _ (Array.getElem?_eq_some_iff.1 q1).1).trans q1
    have p2 := (hW.block _ (Array.getElem?_eq_some_iff.1 q2).1).trans q2
    refine ⟨by rw [Go.Joins.cell_of_block p1]; rfl, by rw [Go.Joins.cell_of_block p1]; rfl, by rw [Go.Joins.cell_of_block p1]; rfl, by rw [Go.Joins.cell_of_block p2]; rfl, by rw [Go.Joins.cell_of_block p2]; rfl, by rw [Go.Joins.cell_of_block p2]; rfl⟩
  have HLS : Hid (∀ W, Below w2.heap.size w2 W → Calls Tryz.prog 33 #[.agg #[x.v, .int .i64 x.f, .int .i64 (x.g : Int)], .agg #[y.v, .int .i64 y.f, .int .i64 (y.g : Int)]] W fun e w' => e = .returned (.bool (lessK (itK x) (itK y))) ∧ Below W.heap.size W w') := fun W hW => less_any (itK x) (itK y) W (HKX.out W hW) (HKY.out W hW)
  have HLT : Hid (∀ W, Below w2.heap.size w2 W → Calls Tryz.prog 33 #[.agg #[y.v, .int .i64 y.f, .int .i64 (y.g : Int)], .agg #[x.v, .int .i64 x.f, .int .i64 (x.g : Int)]] W fun e w' => e = .returned (.bool (lessK (itK y) (itK x))) ∧ Below W.heap.size W w') := fun W hW => less_any (itK y) (itK x) W (HKY.out W hW) (HKX.out W hW)
  obtain ⟨b1, Hb1⟩ := hid_ex (lessK (itK x) (itK y))
  obtain ⟨b2, Hb2⟩ := hid_ex (lessK (itK y) (itK x))
  rw [← Hb1.out] at HLS
  rw [← Hb2.out] at HLT
  obtain ⟨d0, d1, d2, d3, d4, d5⟩ := HCX.out w2 (Below.refl _ _)
  have HW2' : Hid ((w.alloc (.cells #[x.v, .int .i64 x.f, .int .i64 (x.g : Int), .int .u64 x.a.c, .bool x.a.o, .int .i64 (hi x.a.s), .int .u64 (lo x.a.s), .int .i64 x.a.mn, .int .i64 x.a.mx] 59)).alloc (.cells #[y.v, .int .i64 y.f, .int .i64 (y.g : Int), .int .u64 y.a.c, .bool y.a.o, .int .i64 (hi y.a.s), .int .u64 (lo y.a.s), .int .i64 y.a.mn, .int .i64 y.a.mx] 59) = w2) := HW2.out.symm
  unfold itV
  rw [hxv] at HCX HLS HLT HW2' d0 ⊢
  rw [hyv] at HCX HLS HLT HW2' d3 ⊢
  obtain ⟨xn, Hxn⟩ := hid_ex x.D.length
  obtain ⟨yn, Hyn⟩ := hid_ex y.D.length
  rw [← Hxn.out] at HCX HLS HLT HW2' d0 ⊢
  rw [← Hyn.out] at HCX HLS HLT HW2' d3 ⊢
  clear hx hy bx by' q1 q2 HKX HKY hxv hyv HW2 Hb1 Hb2
  go_enter Tryz.func17, Tryz.ntmps17
  go_wp2_with (rw [HW2'.out])
  refine (HLS.out _ (Below.refl _ _)).mono ?_
  rintro e w3 ⟨rfl, hb3⟩
  have HB3 : Hid (Below w2.heap.size w2 w3) := hb3
  clear d0 d1 d2 d3 d4 d5 hb3
  obtain ⟨d0, d1, d2, d3, d4, d5⟩ := HCX.out w3 HB3.out
  have HEnd : Hid (∀ c W, -1 ≤ c → c ≤ 1 → Below w2.heap.size w2 W → OdPost w (.returned (.int .i64 c)) W) := fun c W h1 h2 hW => ⟨c, rfl, h1, h2, HB2.out.trans (hW.mono HB2.out.size)⟩
  cases b1 with
  | true =>
    have HE : Hid (OdPost w (.returned (.int .i64 (-1))) w3) := HEnd.out _ _ (by decide) (by decide) HB3.out
    go_wp2_with fail
    go_ret
    exact HE.out
  | false =>
    go_wp2_with fail
    refine (HLT.out _ HB3.out).mono ?_
    rintro e w4 ⟨rfl, hb4⟩
    have HB4 : Hid (Below w2.heap.size w2 w4) := HB3.out.trans (hb4.mono HB3.out.size)
    clear d0 d1 d2 d3 d4 d5 hb4
    cases b2 with
    | true =>
      have HE : Hid (OdPost w (.returned (.int .i64 1)) w4) := HEnd.out _ _ (by decide) (by decide) HB4.out
      go_wp2_with fail
      go_ret
      exact HE.out
    | false =>
      have HE : Hid (OdPost w (.returned (.int .i64 0)) w4) := HEnd.out _ _ (by decide) (by decide) HB4.out
      go_wp2_with fail
      go_ret
      exact HE.out
/-- A row of items of one's own, in some order. -/
structure PmI (w : World) (base g n cap : Nat) (its0 its : List It) (W : World) : Prop where
  p : its.Perm its0
  r : W.ownsRow base 59 9 (.slice (some ⟨g, 0, none⟩) n cap) n (its.flatMap c9)
  s : ∀ x ∈ its, SReads W x.v x.D ∧ (0 < x.D.length → ∀ b, x.v.ownBlock = some b → b ≠ g) ∧ ItB x
  b : Below base w W
theorem PmI.len {w : World} {base g n cap : Nat} {its0 its : List It} {W : World} (h : PmI w base g n cap its0 its W) : its.length = n := by
  have := h.r.1
  rw [flat9_len] at this
  omega
theorem PmI.below {w : World} {base g n cap : Nat} {its0 its : List It} {W V : World} (h : PmI w base g n cap its0 its W) (hb : Below W.heap.size W V) : PmI w base g n cap its0 its V :=
  ⟨h.p, row_below h.r hb, fun x hx => ⟨(h.s x hx).1.below hb, (h.s x hx).2⟩, h.b.trans (hb.mono (by
    have h1 := (World.ownsRow.lt h.r g rfl)
    omega))⟩
theorem PmI.cells {w : World} {base g n cap : Nat} {its0 its : List It} {W : World} (h : PmI w base g n cap its0 its W) {j : Nat} (hj : j < its.length) {i : Nat} (hi : i < 9) : W.cell? ⟨g, j * 9 + i, none⟩ = some ((c9 its[j])[i]'hi) := by
  have hl := h.len
  rw [World.ownsRow.cellAt h.r _ (by omega), show j * 9 + i = 9 * j + i by omega, flat9 its j i hj hi, List.getElem?_eq_getElem (show i < (c9 its[j]).length from hi)]
  rfl
theorem row_set9 {w W : World} {base g n cap k : Nat} {cur : Array Value} {ys : List It} {y : It} (h : w.ownsRow base 59 9 (.slice (some ⟨g, 0, none⟩) n cap) n (ys.flatMap c9)) (hcur : w.heap[g]? = some (.cells cur 59))
    (hW : StW w W g (k * 9) cur 59 (c9 y)) (hn : ys.length = n) : W.ownsRow base 59 9 (.slice (some ⟨g, 0, none⟩) n cap) n ((ys.set k y).flatMap c9) := by
  obtain ⟨h1, h2⟩ := h
  refine ⟨by rw [flat9_len, List.length_set, hn], ?_⟩
  rcases h2 with ⟨h2, _⟩ | ⟨g', cap', cur0, hv, hg, hw, hc, hx, hs, ht⟩
  · simp at h2
  · have hv' := hv
    simp at hv'
    obtain ⟨rfl, rfl⟩ := hv'
    obtain rfl : cur0 = cur := by rw [hw] at hcur; simpa using hcur
    obtain ⟨cur', k1, k2, k3, k4⟩ := hW.c
    refine .inr ⟨g, cap, cur', rfl, hg, k1, hc, hx, by omega, ?_⟩
    apply List.ext_getElem?
    intro j
    rw [List.getElem?_take]
    by_cases hj : j < n * 9
    · rw [if_pos hj, Array.getElem?_toList]
      have hj7 : j / 9 < (ys.set k y).length := by simp; omega
      have e1 := flat9 (ys.set k y) (j / 9) (j % 9) hj7 (by omega)
      rw [show 9 * (j / 9) + j % 9 = j by omega] at e1
      rw [e1]
      by_cases hjk : j / 9 = k
      · have e2 : (ys.set k y)[j / 9]'hj7 = y := by simp [hjk]
        rw [e2]
        have := k4 (j % 9) (by rw [c9_len]; omega)
        rw [show k * 9 + j % 9 = j by omega] at this
        rw [this, List.getElem?_eq_getElem]
      · rw [k3 j (by rw [c9_len]; omega)]
        have e2 : (ys.set k y)[j / 9]'hj7 = ys[j / 9]'(by simpa using hj7) := by
          rw [List.getElem_set]; rw [if_neg (fun e => hjk e.symm)]
        rw [e2]
        have e3 := flat9 ys (j / 9) (j % 9) (by simpa using hj7) (by omega)
        rw [show 9 * (j / 9) + j % 9 = j by omega] at e3
        rw [← e3, ← ht, List.getElem?_take, if_pos hj, Array.getElem?_toList]
    · rw [if_neg hj, List.getElem?_eq_none (by rw [flat9_len, List.length_set]; omega)]
theorem sreads_stW {w W : World} {g off : Nat} {cur : Array Value} {T : TypeId} {vs : List Value} {v : Value} {D : List ByteArray} (h : SReads w v D) (hW : StW w W g off cur T vs) (hne : 0 < D.length → ∀ b, v.ownBlock = some b → b ≠ g) : SReads W v D := by
  rcases h with h | ⟨b, o, cap, h1, h2, h3, h4, h5, h6, h7⟩
  · exact .inl h
  · have hb := hne h2 b (by rw [h1]; rfl)
    refine .inr ⟨b, o, cap, h1, h2, h3, h4, Nat.lt_of_lt_of_le h5 (hW.b 0 (Nat.zero_le _)).size, fun j hj => ?_, h7⟩
    rw [← h6 j hj]
    exact World.cell?_of_block (hW.o b hb)
/-- Two items change places. -/
theorem PmI.swap {w : World} {base g n cap : Nat} {its0 its : List It} {A B C : World} {cur : Array Value} {i j : Nat} (h : PmI w base g n cap its0 its A) (hi : i < its.length) (hj : j < its.length) (hcur : A.heap[g]? = some (.cells cur 59)) (hB : StW A B g (i * 9) cur 59 (c9 its[j]))
    (hC : ∀ cur', B.heap[g]? = some (.cells cur' 59) → StW B C g (j * 9) cur' 59 (c9 its[i])) : PmI w base g n cap its0 ((its.set i its[j]).set j its[i]) C := by
  obtain ⟨cur', k1, k2, k3, k4⟩ := hB.c
  have hC' := hC cur' k1
  have hl := h.len
  have hgl := World.ownsRow.lt h.r g rfl
  have r1 := row_set9 h.r hcur hB hl
  have r2 := row_set9 r1 k1 hC' (by simp [hl])
  refine ⟨(List.set_set_perm hi hj).trans h.p, r2, fun x hx => ?_, (h.b.trans (hB.b _ hgl.1)).trans (hC'.b _ hgl.1)⟩
  have hm : x ∈ its := (List.set_set_perm hi hj).mem_iff.1 hx
  have hs := h.s x hm
  exact ⟨sreads_stW (sreads_stW hs.1 hB hs.2.1) hC' hs.2.1, hs.2⟩
end Go.Proofs.YtgjcopabmdbenaaGreat

/- The contract of slices.insertionSortCmpFunc of items. -/
namespace Go.Proofs.YtgjcopabmdbenaaGreat
open Go.RowKit Go.Shelf

theorem eg_order : ∀ args w, (callFunc 17 args).run Tryz.prog w = .ok (.enter 17 args) w := enters_of Tryz.func17 (by kernel_rfl) rfl
def IsPost (w : World) (base g n cap : Nat) (its0 : List It) (e : Ending) (W : World) : Prop := (∃ v, e = .returned v) ∧ ∃ its, PmI w base g n cap its0 its W
theorem stW_any {A : World} {g : Nat} {cur cur' : Array Value} {T : TypeId} {off : Nat} {vs : List Value} {C : World} (h1 : A.heap[g]? = some (.cells cur T)) (h2 : A.heap[g]? = some (.cells cur' T)) (h : StW A C g off cur T vs) : StW A C g off cur' T vs := by
  rw [h1] at h2
  simp at h2
  subst h2
  exact h
theorem pmI_row {w : World} {base g n cap : Nat} {its0 its : List It} {W : World} (h : PmI w base g n cap its0 its W) : ∃ cur, W.heap[g]? = some (.cells cur 59) ∧ n * 9 ≤ cur.size := by
  rcases h.r.2 with ⟨q, _⟩ | ⟨g', c', cur0, q, _, hw, hc1, _, hs, _⟩
  · simp at q
  · simp at q
    obtain ⟨rfl, rfl⟩ := q
    exact ⟨cur0, hw, by omega⟩
set_option maxRecDepth 100000 in
set_option maxHeartbeats 8000000 in
theorem insSort_any (w : World) (base g n cap : Nat) (its0 its : List It) (W : World) (h : PmI w base g n cap its0 its W) (hn : n ≤ 100000) (a b : Nat) (ha : a ≤ n) (hb : b ≤ n) :
    Calls Tryz.prog 54 #[.slice (some ⟨g, 0, none⟩) n cap, .int .i64 (a : Int), .int .i64 (b : Int), .func (.func 17) #[] #[]] W (IsPost w base g n cap its0) := by
  have HI0 : Hid (PmI w base g n cap its0 its W) := h
  have hcapm : n ≤ cap ∧ cap ≤ maxLen := by
    rcases h.r.2 with ⟨q, _⟩ | ⟨g', c', cur0, q, _, hw, hc1, hm, hs, _⟩
    · simp at q
    · simp at q
      obtain ⟨rfl, rfl⟩ := q
      exact ⟨hc1, hm⟩
  unfold maxLen at hcapm
  have eg := eg_order
  clear h
  go_enter Tryz.func54, Tryz.ntmps54
  go_wp2_with fail
  go_loopw [8] (fun i wr => ∃ (k : Nat) (l : List It), i = .int .i64 (k : Int) ∧ a < k ∧ k ≤ 200000 ∧ Hid (PmI w base g n cap its0 l wr)) (fun i _ => b - (intOf i).toNat)
  case atStart => exact ⟨a + 1, its, by go_num, by omega, by omega, HI0⟩
  case round =>
    clear HI0
    obtain ⟨k, l, rfl, hk, hk2, HI⟩ := hrel
    by_cases hlt : k < b
    · go_wp2_with fail
      go_loopw [9] (fun jv wq => ∃ (j : Nat) (l : List It), jv = .int .i64 (j : Int) ∧ a ≤ j ∧ j < b ∧ Hid (PmI w base g n cap its0 l wq)) (fun jv _ => (intOf jv).toNat)
      case atStart => exact ⟨k, l, rfl, by omega, hlt, HI⟩
      case round =>
        clear HI
        obtain ⟨j, l, rfl, hj1, hj2, HI⟩ := hrel
        by_cases hja : a < j
        · have hll := HI.out.len
          obtain ⟨i, rfl⟩ : ∃ i, j = i + 1 := ⟨j - 1, by omega⟩
          have hi0 : i < l.length := by omega
          have hi1 : i + 1 < l.length := by omega
          have cA := fun t (ht : t < 9) => HI.out.cells hi1 ht
          have cB := fun t (ht : t < 9) => HI.out.cells hi0 ht
          have sA := HI.out.s l[i + 1] (List.getElem_mem hi1)
          have sB := HI.out.s l[i] (List.getElem_mem hi0)
          have HSW : Hid (∀ (A B C : World) (cur : Array Value), PmI w base g n cap its0 l A → A.heap[g]? = some (.cells cur 59) → StW A B g ((i + 1) * 9) cur 59 (c9 l[i]) → (∀ cur', B.heap[g]? = some (.cells cur' 59) → StW B C g (i * 9) cur' 59 (c9 l[i + 1])) → ∃ l', PmI w base g n cap its0 l' C) := fun A B C cur h1 h2 h3 h4 => ⟨_, h1.swap hi1 hi0 h2 h3 h4⟩
          obtain ⟨P, HP⟩ := hid_ex (l[i + 1]'hi1)
          obtain ⟨Q, HQ⟩ := hid_ex (l[i]'hi0)
          rw [← HP.out] at cA sA HSW
          rw [← HQ.out] at cB sB HSW
          have HOD : Hid (∀ V, Below wr.heap.size wr V → Calls Tryz.prog 17 #[itV P, itV Q] V (OdPost V)) := fun V hV => order15_any P Q V (sA.1.below hV) (sB.1.below hV) sA.2.2 sB.2.2
          obtain ⟨pa, pc, hpv, _⟩ := sA.1.form
          obtain ⟨qa, qc, hqv, _⟩ := sB.1.form
          obtain ⟨pn, Hpn⟩ := hid_ex P.D.length
          obtain ⟨qn, Hqn⟩ := hid_ex Q.D.length
          rw [← Hpn.out] at hpv
          rw [← Hqn.out] at hqv
          unfold itV at HOD
          rw [hpv, hqv] at HOD
          have HCA : Hid (∀ V, Below wr.heap.size wr V → V.cell? ⟨g, (i + 1) * 9, none⟩ = some (.slice pa pn pc) ∧ V.cell? ⟨g, (i + 1) * 9 + 1, none⟩ = some (.int .i64 P.f) ∧ V.cell? ⟨g, (i + 1) * 9 + 2, none⟩ = some (.int .i64 (P.g : Int)) ∧ V.cell? ⟨g, (i + 1) * 9 + 3, none⟩ = some (.int .u64 P.a.c) ∧ V.cell? ⟨g, (i + 1) * 9 + 4, none⟩ = some (.bool P.a.o) ∧ V.cell? ⟨g, (i + 1) * 9 + 5, none⟩ = some (.int .i64 (hi P.a.s)) ∧ V.cell? ⟨g, (i + 1) * 9 + 6, none⟩ = some (.int .u64 (lo P.a.s)) ∧ V.cell? ⟨g, (i + 1) * 9 + 7, none⟩ = some (.int .i64 P.a.mn) ∧ V.cell? ⟨g, (i + 1) * 9 + 8, none⟩ = some (.int .i64 P.a.mx)) := fun V hV => by
            have hgl : g < wr.heap.size := (World.ownsRow.lt HI.out.r g rfl).2
            have q := fun t (ht : t < 9) => (hV.cell (p := ⟨g, (i + 1) * 9 + t, none⟩) hgl).trans (cA t ht)
            have q0 := q 0 (by decide)
            simp only [c9, List.getElem_cons_zero, Nat.add_zero] at q0
            rw [hpv] at q0
            exact ⟨q0, q 1 (by decide), q 2 (by decide), q 3 (by decide), q 4 (by decide), q 5 (by decide), q 6 (by decide), q 7 (by decide), q 8 (by decide)⟩
          have HCB : Hid (∀ V, Below wr.heap.size wr V → V.cell? ⟨g, i * 9, none⟩ = some (.slice qa qn qc) ∧ V.cell? ⟨g, i * 9 + 1, none⟩ = some (.int .i64 Q.f) ∧ V.cell? ⟨g, i * 9 + 2, none⟩ = some (.int .i64 (Q.g : Int)) ∧ V.cell? ⟨g, i * 9 + 3, none⟩ = some (.int .u64 Q.a.c) ∧ V.cell? ⟨g, i * 9 + 4, none⟩ = some (.bool Q.a.o) ∧ V.cell? ⟨g, i * 9 + 5, none⟩ = some (.int .i64 (hi Q.a.s)) ∧ V.cell? ⟨g, i * 9 + 6, none⟩ = some (.int .u64 (lo Q.a.s)) ∧ V.cell? ⟨g, i * 9 + 7, none⟩ = some (.int .i64 Q.a.mn) ∧ V.cell? ⟨g, i * 9 + 8, none⟩ = some (.int .i64 Q.a.mx)) := fun V hV => by
            have hgl : g < wr.heap.size := (World.ownsRow.lt HI.out.r g rfl).2
            have q := fun t (ht : t < 9) => (hV.cell (p := ⟨g, i * 9 + t, none⟩) hgl).trans (cB t ht)
            have q0 := q 0 (by decide)
            simp only [c9, List.getElem_cons_zero, Nat.add_zero] at q0
            rw [hqv] at q0
            exact ⟨q0, q 1 (by decide), q 2 (by decide), q 3 (by decide), q 4 (by decide), q 5 (by decide), q 6 (by decide), q 7 (by decide), q 8 (by decide)⟩
          have HPV : Hid (c9 P = [.slice pa pn pc, .int .i64 P.f, .int .i64 (P.g : Int), .int .u64 P.a.c, .bool P.a.o, .int .i64 (hi P.a.s), .int .u64 (lo P.a.s), .int .i64 P.a.mn, .int .i64 P.a.mx]) := by unfold c9; rw [hpv]; rfl
          have HQV : Hid (c9 Q = [.slice qa qn qc, .int .i64 Q.f, .int .i64 (Q.g : Int), .int .u64 Q.a.c, .bool Q.a.o, .int .i64 (hi Q.a.s), .int .u64 (lo Q.a.s), .int .i64 Q.a.mn, .int .i64 Q.a.mx]) := by unfold c9; rw [hqv]; rfl
          have hin : i + 1 < n := by omega
          clear cA cB sA sB hpv hqv HP HQ hll hi0 hi1 Hpn Hqn
          go_wp2_with fail
          refine wp_region_noPanic ?_
          refine wp_region_held_drew (S := (fun w' => Below wr.heap.size wr w')) (by kernel_rfl) ?_ (fun hHeld => ?_)
          · exact (Below.refl _ _).drew
          refine wpAnyH_take (i := 0) (v := .int .i64 ((i : Int) + 1)) rfl (by kernel_rfl) (by kernel_rfl) (by kernel_rfl) (fun _ _ _ h => h) (Or.inl ⟨by rfl, ?_⟩) (by assumption) ?_
          · (intro w1 hSw; (try dsimp only at hSw); go_simp)
          simp only [List.getElem_toArray, List.getElem_cons_zero, Act.put, List.setIfInBounds_toArray, List.set_cons_zero, List.set_cons_succ]
          refine wpAnyH_take (i := 1) (v := .int .i64 (a : Int)) rfl (by kernel_rfl) (by kernel_rfl) (by kernel_rfl) (fun _ _ _ h => h) (Or.inl ⟨by rfl, ?_⟩) (by assumption) ?_
          · (intro w1 hSw; (try dsimp only at hSw); go_simp)
          simp only [List.getElem_toArray, List.getElem_cons_succ, List.getElem_cons_zero, Act.put, List.setIfInBounds_toArray, List.set_cons_zero, List.set_cons_succ]
          refine wpAnyH_take (i := 2) (v := .bool true) rfl (by kernel_rfl) (by kernel_rfl) (by kernel_rfl) (fun _ _ _ h => h) (Or.inl ⟨by rfl, ?_⟩) (by assumption) ?_
          · (intro w1 hSw; (try dsimp only at hSw); go_simp; omega)
          simp only [List.getElem_toArray, List.getElem_cons_succ, List.getElem_cons_zero, Act.put, List.setIfInBounds_toArray, List.set_cons_zero, List.set_cons_succ]
          refine wpAnyH_take (i := 3) (v := .bool true) rfl (by kernel_rfl) (by kernel_rfl) (by kernel_rfl) (fun _ _ _ h => h) (Or.inl ⟨by rfl, ?_⟩) (by assumption) ?_
          · (intro w1 hSw; (try dsimp only at hSw); go_simp)
          simp only [List.getElem_toArray, List.getElem_cons_succ, List.getElem_cons_zero, Act.put, List.setIfInBounds_toArray, List.set_cons_zero, List.set_cons_succ]
          refine wpAnyH_take (i := 4) (v := .func (.func 17) #[] #[]) rfl (by kernel_rfl) (by kernel_rfl) (by kernel_rfl) (fun _ _ _ h => h) (Or.inl ⟨by rfl, ?_⟩) (by assumption) ?_
          · (intro w1 hSw; (try dsimp only at hSw); go_simp)
          simp only [List.getElem_toArray, List.getElem_cons_succ, List.getElem_cons_zero, Act.put, List.setIfInBounds_toArray, List.set_cons_zero, List.set_cons_succ]
          refine wpAnyH_take (i := 5) (v := .slice (some ⟨g, 0, none⟩) n cap) rfl (by kernel_rfl) (by kernel_rfl) (by kernel_rfl) (fun _ _ _ h => h) (Or.inl ⟨by rfl, ?_⟩) (by assumption) ?_
          · (intro w1 hSw; (try dsimp only at hSw); go_simp)
          simp only [List.getElem_toArray, List.getElem_cons_succ, List.getElem_cons_zero, Act.put, List.setIfInBounds_toArray, List.set_cons_zero, List.set_cons_succ]
          refine wpAnyH_take (i := 6) (v := .int .i64 ((i : Int) + 1)) rfl (by kernel_rfl) (by kernel_rfl) (by kernel_rfl) (fun _ _ _ h => h) (Or.inl ⟨by rfl, ?_⟩) (by assumption) ?_
          · (intro w1 hSw; (try dsimp only at hSw); go_simp)
          simp only [List.getElem_toArray, List.getElem_cons_succ, List.getElem_cons_zero, Act.put, List.setIfInBounds_toArray, List.set_cons_zero, List.set_cons_succ]
          refine wpAnyH_take (i := 7) (v := .pointer (some ⟨g, (i + 1) * 9, none⟩)) rfl (by kernel_rfl) (by kernel_rfl) (by kernel_rfl) (fun _ _ _ h => h) (Or.inl ⟨by rfl, ?_⟩) (by assumption) ?_
          · (intro w1 hSw; (try dsimp only at hSw); go_simp; (intro hh; exfalso; first | omega | (have := hh (by omega); omega)))
          simp only [List.getElem_toArray, List.getElem_cons_succ, List.getElem_cons_zero, Act.put, List.setIfInBounds_toArray, List.set_cons_zero, List.set_cons_succ]
          refine wpAnyH_take (i := 8) (v := .agg #[.slice pa pn pc, .int .i64 P.f, .int .i64 (P.g : Int), .int .u64 P.a.c, .bool P.a.o, .int .i64 (hi P.a.s), .int .u64 (lo P.a.s), .int .i64 P.a.mn, .int .i64 P.a.mx]) rfl (by kernel_rfl) (by kernel_rfl) (by kernel_rfl) (fun _ _ _ h => h) (Or.inl ⟨by rfl, ?_⟩) (by assumption) ?_
          · (intro w1 hSw; (try dsimp only at hSw); obtain ⟨c0, c1, c2, c3, c4, c5, c6, c7, c8⟩ := HCA.out _ hSw; go_simp)
          simp only [List.getElem_toArray, List.getElem_cons_succ, List.getElem_cons_zero, Act.put, List.setIfInBounds_toArray, List.set_cons_zero, List.set_cons_succ]
          refine wpAnyH_take (i := 9) (v := .slice (some ⟨g, 0, none⟩) n cap) rfl (by kernel_rfl) (by kernel_rfl) (by kernel_rfl) (fun _ _ _ h => h) (Or.inl ⟨by rfl, ?_⟩) (by assumption) ?_
          · (intro w1 hSw; (try dsimp only at hSw); go_simp)
          simp only [List.getElem_toArray, List.getElem_cons_succ, List.getElem_cons_zero, Act.put, List.setIfInBounds_toArray, List.set_cons_zero, List.set_cons_succ]
          refine wpAnyH_take (i := 10) (v := .int .i64 ((i : Int) + 1)) rfl (by kernel_rfl) (by kernel_rfl) (by kernel_rfl) (fun _ _ _ h => h) (Or.inl ⟨by rfl, ?_⟩) (by assumption) ?_
          · (intro w1 hSw; (try dsimp only at hSw); go_simp)
          simp only [List.getElem_toArray, List.getElem_cons_succ, List.getElem_cons_zero, Act.put, List.setIfInBounds_toArray, List.set_cons_zero, List.set_cons_succ]
          refine wpAnyH_take (i := 11) (v := .int .i64 (i : Int)) rfl (by kernel_rfl) (by kernel_rfl) (by kernel_rfl) (fun _ _ _ h => h) (Or.inl ⟨by rfl, ?_⟩) (by assumption) ?_
          · (intro w1 hSw; (try dsimp only at hSw); go_simp; (rw [IntKind.wrap_i64]; omega))
          simp only [List.getElem_toArray, List.getElem_cons_succ, List.getElem_cons_zero, Act.put, List.setIfInBounds_toArray, List.set_cons_zero, List.set_cons_succ]
          refine wpAnyH_take (i := 12) (v := .pointer (some ⟨g, i * 9, none⟩)) rfl (by kernel_rfl) (by kernel_rfl) (by kernel_rfl) (fun _ _ _ h => h) (Or.inl ⟨by rfl, ?_⟩) (by assumption) ?_
          · (intro w1 hSw; (try dsimp only at hSw); go_simp; (intro hh; exfalso; first | omega | (have := hh (by omega); omega)))
          simp only [List.getElem_toArray, List.getElem_cons_succ, List.getElem_cons_zero, Act.put, List.setIfInBounds_toArray, List.set_cons_zero, List.set_cons_succ]
          refine wpAnyH_take (i := 13) (v := .agg #[.slice qa qn qc, .int .i64 Q.f, .int .i64 (Q.g : Int), .int .u64 Q.a.c, .bool Q.a.o, .int .i64 (hi Q.a.s), .int .u64 (lo Q.a.s), .int .i64 Q.a.mn, .int .i64 Q.a.mx]) rfl (by kernel_rfl) (by kernel_rfl) (by kernel_rfl) (fun _ _ _ h => h) (Or.inl ⟨by rfl, ?_⟩) (by assumption) ?_
          · (intro w1 hSw; (try dsimp only at hSw); obtain ⟨c0, c1, c2, c3, c4, c5, c6, c7, c8⟩ := HCB.out _ hSw; go_simp)
          simp only [List.getElem_toArray, List.getElem_cons_succ, List.getElem_cons_zero, Act.put, List.setIfInBounds_toArray, List.set_cons_zero, List.set_cons_succ]
          refine wpAnyH_ready (rs := [14]) (by kernel_rfl) (by simp) ?_
          refine AllReadyH.cons (o := _) rfl (fun K hK => ?_) AllReadyH.nil
          go_simp
          refine (HOD.out _ (Below.refl _ _).drew).mono ?_
          rintro e w4 ⟨c, rfl, _, _, hb4⟩
          have HW4 : Hid (Below wr.heap.size wr w4) := (Below.refl wr.heap.size wr).drew.trans hb4
          clear hb4
          refine hK.out _ _ ?_ (fun hHeld => ?_)
          · exact HW4.out
          clear hK K
          refine wpAnyH_take (i := 15) (v := .bool (decide (c < 0))) rfl (by kernel_rfl) (by kernel_rfl) (by kernel_rfl) (fun _ _ _ h => h) (Or.inl ⟨by rfl, ?_⟩) (by assumption) ?_
          · (intro w1 hSw; (try dsimp only at hSw); go_simp)
          simp only [List.getElem_toArray, List.getElem_cons_succ, List.getElem_cons_zero, Act.put, List.setIfInBounds_toArray, List.set_cons_zero, List.set_cons_succ]
          refine wpAnyH_take (i := 16) (v := .bool (decide (c < 0))) rfl (by kernel_rfl) (by kernel_rfl) (by kernel_rfl) (fun _ _ _ h => h) (Or.inl ⟨by rfl, ?_⟩) (by assumption) ?_
          · (intro w1 hSw; (try dsimp only at hSw); go_simp)
          simp only [List.getElem_toArray, List.getElem_cons_succ, List.getElem_cons_zero, Act.put, List.setIfInBounds_toArray, List.set_cons_zero, List.set_cons_succ]
          clear hHeld
          refine wpAnyH_done (by kernel_rfl) ?_ _
          refine NoPanic.normal ?_
          have HI4 : Hid (PmI w base g n cap its0 l w4) := HI.out.below HW4.out
          by_cases hc0 : c < 0
          · rw [decide_eq_true hc0]
            obtain ⟨c0, c1, c2, c3, c4, c5, c6, c7, c8⟩ := HCA.out _ HW4.out
            obtain ⟨d0, d1, d2, d3, d4, d5, d6, d7, d8⟩ := HCB.out _ HW4.out
            obtain ⟨cur, hcur, hcs⟩ := pmI_row HI4.out
            have HCU : Hid _ := hcur
            clear hcur
            go_wp2_with fail
            refine wp_region_noPanic ?_
            refine wp_region_S 15 (fun _ => True) (fun w' => w'.cell? ⟨g, (i + 1) * 9, none⟩ = some (.slice pa pn pc) ∧ w'.cell? ⟨g, (i + 1) * 9 + 1, none⟩ = some (.int .i64 P.f) ∧ w'.cell? ⟨g, (i + 1) * 9 + 2, none⟩ = some (.int .i64 (P.g : Int)) ∧ w'.cell? ⟨g, (i + 1) * 9 + 3, none⟩ = some (.int .u64 P.a.c) ∧ w'.cell? ⟨g, (i + 1) * 9 + 4, none⟩ = some (.bool P.a.o) ∧ w'.cell? ⟨g, (i + 1) * 9 + 5, none⟩ = some (.int .i64 (hi P.a.s)) ∧ w'.cell? ⟨g, (i + 1) * 9 + 6, none⟩ = some (.int .u64 (lo P.a.s)) ∧ w'.cell? ⟨g, (i + 1) * 9 + 7, none⟩ = some (.int .i64 P.a.mn) ∧ w'.cell? ⟨g, (i + 1) * 9 + 8, none⟩ = some (.int .i64 P.a.mx) ∧ w'.cell? ⟨g, i * 9, none⟩ = some (.slice qa qn qc) ∧ w'.cell? ⟨g, i * 9 + 1, none⟩ = some (.int .i64 Q.f) ∧ w'.cell? ⟨g, i * 9 + 2, none⟩ = some (.int .i64 (Q.g : Int)) ∧ w'.cell? ⟨g, i * 9 + 3, none⟩ = some (.int .u64 Q.a.c) ∧ w'.cell? ⟨g, i * 9 + 4, none⟩ = some (.bool Q.a.o) ∧ w'.cell? ⟨g, i * 9 + 5, none⟩ = some (.int .i64 (hi Q.a.s)) ∧ w'.cell? ⟨g, i * 9 + 6, none⟩ = some (.int .u64 (lo Q.a.s)) ∧ w'.cell? ⟨g, i * 9 + 7, none⟩ = some (.int .i64 Q.a.mn) ∧ w'.cell? ⟨g, i * 9 + 8, none⟩ = some (.int .i64 Q.a.mx)) (by kernel_rfl) ?_ ?_ (fun hHeld => ?_)
            · trivial
            · exact ⟨c0, c1, c2, c3, c4, c5, c6, c7, c8, d0, d1, d2, d3, d4, d5, d6, d7, d8⟩
            refine wpAnyS_take (i := 0) (v := .slice (some ⟨g, 0, none⟩) n cap) _ rfl (by kernel_rfl) (by kernel_rfl) (by kernel_rfl) (by kernel_rfl) (by kernel_rfl) rfl (fun _ _ _ h => h) (Or.inl ⟨by rfl, ?_⟩) hHeld (fun hHeld => ?_)
            · (intro w1 hSw; have hSw := hSw.1; (try dsimp only at hSw); go_simp)
            simp only [List.getElem_toArray, List.getElem_cons_zero, Act.put, List.setIfInBounds_toArray, List.set_cons_zero, List.set_cons_succ]
            refine wpAnyS_take (i := 1) (v := .int .i64 ((i : Int) + 1)) _ rfl (by kernel_rfl) (by kernel_rfl) (by kernel_rfl) (by kernel_rfl) (by kernel_rfl) rfl (fun _ _ _ h => h) (Or.inl ⟨by rfl, ?_⟩) hHeld (fun hHeld => ?_)
            · (intro w1 hSw; have hSw := hSw.1; (try dsimp only at hSw); go_simp)
            simp only [List.getElem_toArray, List.getElem_cons_succ, List.getElem_cons_zero, Act.put, List.setIfInBounds_toArray, List.set_cons_zero, List.set_cons_succ]
            refine wpAnyS_take (i := 2) (v := .slice (some ⟨g, 0, none⟩) n cap) _ rfl (by kernel_rfl) (by kernel_rfl) (by kernel_rfl) (by kernel_rfl) (by kernel_rfl) rfl (fun _ _ _ h => h) (Or.inl ⟨by rfl, ?_⟩) hHeld (fun hHeld => ?_)
            · (intro w1 hSw; have hSw := hSw.1; (try dsimp only at hSw); go_simp)
            simp only [List.getElem_toArray, List.getElem_cons_succ, List.getElem_cons_zero, Act.put, List.setIfInBounds_toArray, List.set_cons_zero, List.set_cons_succ]
            refine wpAnyS_take (i := 3) (v := .int .i64 ((i : Int) + 1)) _ rfl (by kernel_rfl) (by kernel_rfl) (by kernel_rfl) (by kernel_rfl) (by kernel_rfl) rfl (fun _ _ _ h => h) (Or.inl ⟨by rfl, ?_⟩) hHeld (fun hHeld => ?_)
            · (intro w1 hSw; have hSw := hSw.1; (try dsimp only at hSw); go_simp)
            simp only [List.getElem_toArray, List.getElem_cons_succ, List.getElem_cons_zero, Act.put, List.setIfInBounds_toArray, List.set_cons_zero, List.set_cons_succ]
            refine wpAnyS_take (i := 4) (v := .int .i64 (i : Int)) _ rfl (by kernel_rfl) (by kernel_rfl) (by kernel_rfl) (by kernel_rfl) (by kernel_rfl) rfl (fun _ _ _ h => h) (Or.inl ⟨by rfl, ?_⟩) hHeld (fun hHeld => ?_)
            · (intro w1 hSw; have hSw := hSw.1; (try dsimp only at hSw); go_simp; (rw [IntKind.wrap_i64]; omega))
            simp only [List.getElem_toArray, List.getElem_cons_succ, List.getElem_cons_zero, Act.put, List.setIfInBounds_toArray, List.set_cons_zero, List.set_cons_succ]
            refine wpAnyS_take (i := 5) (v := .slice (some ⟨g, 0, none⟩) n cap) _ rfl (by kernel_rfl) (by kernel_rfl) (by kernel_rfl) (by kernel_rfl) (by kernel_rfl) rfl (fun _ _ _ h => h) (Or.inl ⟨by rfl, ?_⟩) hHeld (fun hHeld => ?_)
            · (intro w1 hSw; have hSw := hSw.1; (try dsimp only at hSw); go_simp)
            simp only [List.getElem_toArray, List.getElem_cons_succ, List.getElem_cons_zero, Act.put, List.setIfInBounds_toArray, List.set_cons_zero, List.set_cons_succ]
            refine wpAnyS_take (i := 6) (v := .int .i64 ((i : Int) + 1)) _ rfl (by kernel_rfl) (by kernel_rfl) (by kernel_rfl) (by kernel_rfl) (by kernel_rfl) rfl (fun _ _ _ h => h) (Or.inl ⟨by rfl, ?_⟩) hHeld (fun hHeld => ?_)
            · (intro w1 hSw; have hSw := hSw.1; (try dsimp only at hSw); go_simp)
            simp only [List.getElem_toArray, List.getElem_cons_succ, List.getElem_cons_zero, Act.put, List.setIfInBounds_toArray, List.set_cons_zero, List.set_cons_succ]
            refine wpAnyS_take (i := 7) (v := .int .i64 (i : Int)) _ rfl (by kernel_rfl) (by kernel_rfl) (by kernel_rfl) (by kernel_rfl) (by kernel_rfl) rfl (fun _ _ _ h => h) (Or.inl ⟨by rfl, ?_⟩) hHeld (fun hHeld => ?_)
            · (intro w1 hSw; have hSw := hSw.1; (try dsimp only at hSw); go_simp; (rw [IntKind.wrap_i64]; omega))
            simp only [List.getElem_toArray, List.getElem_cons_succ, List.getElem_cons_zero, Act.put, List.setIfInBounds_toArray, List.set_cons_zero, List.set_cons_succ]
            refine wpAnyS_take (i := 8) (v := .pointer (some ⟨g, i * 9, none⟩)) _ rfl (by kernel_rfl) (by kernel_rfl) (by kernel_rfl) (by kernel_rfl) (by kernel_rfl) rfl (fun _ _ _ h => h) (Or.inl ⟨by rfl, ?_⟩) hHeld (fun hHeld => ?_)
            · (intro w1 hSw; have hSw := hSw.1; (try dsimp only at hSw); go_simp; (intro hh; exfalso; first | omega | (have := hh (by omega); omega)))
            simp only [List.getElem_toArray, List.getElem_cons_succ, List.getElem_cons_zero, Act.put, List.setIfInBounds_toArray, List.set_cons_zero, List.set_cons_succ]
            refine wpAnyS_take (i := 9) (v := .agg #[.slice qa qn qc, .int .i64 Q.f, .int .i64 (Q.g : Int), .int .u64 Q.a.c, .bool Q.a.o, .int .i64 (hi Q.a.s), .int .u64 (lo Q.a.s), .int .i64 Q.a.mn, .int .i64 Q.a.mx]) true rfl (by kernel_rfl) (by kernel_rfl) (by kernel_rfl) (by kernel_rfl) (by kernel_rfl) (by kernel_rfl) (fun _ _ _ h => h) (Or.inl ⟨by rfl, ?_⟩) hHeld (fun hHeld => ?_)
            · (intro w1 hSw; have hSw2 := hSw.2 rfl; have hSw := hSw.1; (try dsimp only at hSw hSw2); go_simp)
            simp only [List.getElem_toArray, List.getElem_cons_succ, List.getElem_cons_zero, Act.put, List.setIfInBounds_toArray, List.set_cons_zero, List.set_cons_succ]
            refine wpAnyS_take (i := 10) (v := .slice (some ⟨g, 0, none⟩) n cap) _ rfl (by kernel_rfl) (by kernel_rfl) (by kernel_rfl) (by kernel_rfl) (by kernel_rfl) rfl (fun _ _ _ h => h) (Or.inl ⟨by rfl, ?_⟩) hHeld (fun hHeld => ?_)
            · (intro w1 hSw; have hSw := hSw.1; (try dsimp only at hSw); go_simp)
            simp only [List.getElem_toArray, List.getElem_cons_succ, List.getElem_cons_zero, Act.put, List.setIfInBounds_toArray, List.set_cons_zero, List.set_cons_succ]
            refine wpAnyS_take (i := 11) (v := .int .i64 ((i : Int) + 1)) _ rfl (by kernel_rfl) (by kernel_rfl) (by kernel_rfl) (by kernel_rfl) (by kernel_rfl) rfl (fun _ _ _ h => h) (Or.inl ⟨by rfl, ?_⟩) hHeld (fun hHeld => ?_)
            · (intro w1 hSw; have hSw := hSw.1; (try dsimp only at hSw); go_simp)
            simp only [List.getElem_toArray, List.getElem_cons_succ, List.getElem_cons_zero, Act.put, List.setIfInBounds_toArray, List.set_cons_zero, List.set_cons_succ]
            refine wpAnyS_take (i := 12) (v := .pointer (some ⟨g, (i + 1) * 9, none⟩)) _ rfl (by kernel_rfl) (by kernel_rfl) (by kernel_rfl) (by kernel_rfl) (by kernel_rfl) rfl (fun _ _ _ h => h) (Or.inl ⟨by rfl, ?_⟩) hHeld (fun hHeld => ?_)
            · (intro w1 hSw; have hSw := hSw.1; (try dsimp only at hSw); go_simp; (intro hh; exfalso; first | omega | (have := hh (by omega); omega)))
            simp only [List.getElem_toArray, List.getElem_cons_succ, List.getElem_cons_zero, Act.put, List.setIfInBounds_toArray, List.set_cons_zero, List.set_cons_succ]
            refine wpAnyS_take (i := 13) (v := .agg #[.slice pa pn pc, .int .i64 P.f, .int .i64 (P.g : Int), .int .u64 P.a.c, .bool P.a.o, .int .i64 (hi P.a.s), .int .u64 (lo P.a.s), .int .i64 P.a.mn, .int .i64 P.a.mx]) true rfl (by kernel_rfl) (by kernel_rfl) (by kernel_rfl) (by kernel_rfl) (by kernel_rfl) (by kernel_rfl) (fun _ _ _ h => h) (Or.inl ⟨by rfl, ?_⟩) hHeld (fun hHeld => ?_)
            · (intro w1 hSw; have hSw2 := hSw.2 rfl; have hSw := hSw.1; (try dsimp only at hSw hSw2); go_simp)
            simp only [List.getElem_toArray, List.getElem_cons_succ, List.getElem_cons_zero, Act.put, List.setIfInBounds_toArray, List.set_cons_zero, List.set_cons_succ]
            refine wpAnyS_take (i := 14) (v := .pointer (some ⟨g, (i + 1) * 9, none⟩)) _ rfl (by kernel_rfl) (by kernel_rfl) (by kernel_rfl) (by kernel_rfl) (by kernel_rfl) rfl (fun _ _ _ h => h) (Or.inl ⟨by rfl, ?_⟩) hHeld (fun hHeld => ?_)
            · (intro w1 hSw; have hSw := hSw.1; (try dsimp only at hSw); go_simp; (intro hh; exfalso; first | omega | (have := hh (by omega); omega)))
            simp only [List.getElem_toArray, List.getElem_cons_succ, List.getElem_cons_zero, Act.put, List.setIfInBounds_toArray, List.set_cons_zero, List.set_cons_succ]
            refine wpAnyS_ready (i := 15) (by kernel_rfl) rfl (fun K hK => ?_)
            rw [if_pos (by rfl)]
            refine wp_storeN _ _ _ rfl g ((i + 1) * 9) [.slice qa qn qc, .int .i64 Q.f, .int .i64 (Q.g : Int), .int .u64 Q.a.c, .bool Q.a.o, .int .i64 (hi Q.a.s), .int .u64 (lo Q.a.s), .int .i64 Q.a.mn, .int .i64 Q.a.mx] rfl rfl cur _ HCU.out (by simp; omega) (by kernel_rfl) (by kernel_rfl) (fun W0 hW0 => ?_)
            refine hK.out _ _ ⟨?_, fun hno => absurd hno (by decide)⟩ (fun hHeld => ?_)
            · trivial
            clear hK K
            refine wpAnyS_take (i := 16) (v := .pointer (some ⟨g, i * 9, none⟩)) _ rfl (by kernel_rfl) (by kernel_rfl) (by kernel_rfl) (by kernel_rfl) (by kernel_rfl) rfl (fun _ _ _ h => h) (Or.inl ⟨by rfl, ?_⟩) hHeld (fun hHeld => ?_)
            · (intro w1 hSw; have hSw := hSw.1; (try dsimp only at hSw); go_simp; (intro hh; exfalso; first | omega | (have := hh (by omega); omega)))
            simp only [List.getElem_toArray, List.getElem_cons_succ, List.getElem_cons_zero, Act.put, List.setIfInBounds_toArray, List.set_cons_zero, List.set_cons_succ]
            refine wpAnyS_ready (i := 17) (by kernel_rfl) rfl (fun K hK => ?_)
            rw [if_pos (by rfl)]
            obtain ⟨cur2, hcu2, hcz2, _, _⟩ := hW0.c
            refine wp_storeN _ _ _ rfl g (i * 9) [.slice pa pn pc, .int .i64 P.f, .int .i64 (P.g : Int), .int .u64 P.a.c, .bool P.a.o, .int .i64 (hi P.a.s), .int .u64 (lo P.a.s), .int .i64 P.a.mn, .int .i64 P.a.mx] rfl rfl cur2 _ hcu2 (by simp; omega) (by kernel_rfl) (by kernel_rfl) (fun W1 hW1 => ?_)
            refine hK.out _ _ ⟨?_, fun hno => absurd hno (by decide)⟩ (fun hHeld => ?_)
            · trivial
            clear hK K
            refine wpAnyS_done (by kernel_rfl) ?_ _
            refine NoPanic.normal ?_
            obtain ⟨l', hl'⟩ := HSW.out w4.drew W0 W1 cur (HI4.out.below (Below.refl _ _).drew) HCU.out (by rw [HQV.out]; exact hW0) (fun c2 h2 => by rw [HPV.out]; exact stW_any hcu2 h2 hW1)
            have HN : Hid (PmI w base g n cap its0 l' W1) := hl'
            clear hW0 hW1 hl' c0 c1 c2 c3 c4 c5 c6 c7 c8 d0 d1 d2 d3 d4 d5 d6 d7 d8 hcu2 hcz2
            go_wp2_with fail
            go_roundw
            case rel => exact ⟨i, l', by go_num, by omega, by omega, HN⟩
            case measure => simp [intOf]
          · rw [decide_eq_false hc0]
            go_wp2_with fail
            go_roundw
            case rel => exact ⟨k + 1, l, by go_num, by omega, by omega, HI4⟩
            case measure => simp [intOf]; omega
        · have hng : decide ((a : Int) < (j : Int)) = false := by simp; omega
          go_wp2_with fail
          go_quiet (fail)
          have HI2 : Hid (PmI w base g n cap its0 l (wr.drewN nq)) := HI.out.below (below_drewN (Below.refl _ _) nq)
          go_wp2_with fail
          go_roundw
          case rel => exact ⟨k + 1, l, by go_num, by omega, by omega, HI2⟩
          case measure => simp [intOf]; omega
    · have HE : Hid (IsPost w base g n cap its0 (.returned (.tuple #[])) wr) := ⟨⟨_, rfl⟩, l, HI.out⟩
      go_wp2_with fail
      exact bodyPost_end (results_none rfl _ _ _) rfl HE.out
end Go.Proofs.YtgjcopabmdbenaaGreat

/- The contract of slices.SortStableFunc of a few items. -/
namespace Go.Proofs.YtgjcopabmdbenaaGreat
open Go.RowKit Go.Shelf

/-- So many items are put into some order. -/
def Sorts (n : Nat) : Prop := ∀ (w : World) (base g cap : Nat) (its0 its : List It) (W : World), PmI w base g n cap its0 its W → Calls Tryz.prog 16 #[.slice (some ⟨g, 0, none⟩) n cap, .func (.func 17) #[] #[]] W (IsPost w base g n cap its0)
set_option maxRecDepth 100000 in
set_option maxHeartbeats 2000000 in
theorem stable_small (w : World) (base g n cap : Nat) (its0 its : List It) (W : World) (h : PmI w base g n cap its0 its W) (hn : n < 20) :
    Calls Tryz.prog 32 #[.slice (some ⟨g, 0, none⟩) n cap, .int .i64 (n : Int), .func (.func 17) #[] #[]] W (IsPost w base g n cap its0) := by
  have HI : Hid (Calls Tryz.prog 54 #[.slice (some ⟨g, 0, none⟩) n cap, .int .i64 0, .int .i64 (n : Int), .func (.func 17) #[] #[]] W (IsPost w base g n cap its0)) := insSort_any w base g n cap its0 its W h (by omega) 0 n (by omega) (Nat.le_refl _)
  have g1 : ¬ ((20 : Int) ≤ (n : Int)) := by omega
  have g2 : ¬ ((20 : Int) < (n : Int)) := by omega
  clear h
  go_enter Tryz.func32, Tryz.ntmps32
  go_wp2_with fail
  go_loopw [7, 8] (fun av bv wr => av = .int .i64 0 ∧ bv = .int .i64 20 ∧ wr = W) (fun _ _ _ => 0)
  case atStart => exact ⟨rfl, rfl, rfl⟩
  case round =>
    obtain ⟨rfl, rfl, rfl⟩ := hrel
    go_wp2_with fail
    refine HI.out.mono ?_
    rintro e w2 ⟨⟨v, rfl⟩, l, hl⟩
    have HE : Hid (IsPost w base g n cap its0 (.returned (.tuple #[])) w2) := ⟨⟨_, rfl⟩, l, hl⟩
    clear hl
    go_wp2_with fail
    go_loopw [6] (fun bv wr => bv = .int .i64 20 ∧ wr = w2) (fun _ _ => 0)
    case atStart => exact ⟨rfl, rfl⟩
    case round =>
      obtain ⟨rfl, rfl⟩ := hrel
      go_wp2_with fail
      exact bodyPost_end (results_none rfl _ _ _) rfl HE.out
set_option maxRecDepth 100000 in
theorem sorts_of (n : Nat) (h : ∀ (w : World) (base g cap : Nat) (its0 its : List It) (W : World), PmI w base g n cap its0 its W → Calls Tryz.prog 32 #[.slice (some ⟨g, 0, none⟩) n cap, .int .i64 (n : Int), .func (.func 17) #[] #[]] W (IsPost w base g n cap its0)) : Sorts n := by
  intro w base g cap its0 its W hp
  have HI : Hid (Calls Tryz.prog 32 #[.slice (some ⟨g, 0, none⟩) n cap, .int .i64 (n : Int), .func (.func 17) #[] #[]] W (IsPost w base g n cap its0)) := h w base g cap its0 its W hp
  clear h hp
  go_enter Tryz.func16, Tryz.ntmps16
  go_wp2_with fail
  refine HI.out.mono ?_
  rintro e w2 ⟨⟨v, rfl⟩, l, hl⟩
  have HE : Hid (IsPost w base g n cap its0 (.returned (.tuple #[])) w2) := ⟨⟨_, rfl⟩, l, hl⟩
  clear hl
  go_wp2_with fail
  exact bodyPost_end (results_none rfl _ _ _) rfl HE.out
theorem sorts_small (n : Nat) (hn : n < 20) : Sorts n := sorts_of n fun w base g cap its0 its W h => stable_small w base g n cap its0 its W h hn
def NlPost (w : World) (e : Ending) (W : World) : Prop := (∃ v, e = .returned v) ∧ W = w
set_option maxRecDepth 100000 in
theorem ins_nil (w : World) : Calls Tryz.prog 54 #[.slice none 0 0, .int .i64 0, .int .i64 0, .func (.func 17) #[] #[]] w (NlPost w) := by
  have HE : Hid (NlPost w (.returned (.tuple #[])) w) := ⟨⟨_, rfl⟩, rfl⟩
  go_enter Tryz.func54, Tryz.ntmps54
  go_wp2_with fail
  go_loopw [8] (fun i wr => i = .int .i64 1 ∧ wr = w) (fun _ _ => 0)
  case atStart => exact ⟨rfl, rfl⟩
  case round =>
    obtain ⟨rfl, rfl⟩ := hrel
    go_wp2_with fail
    exact bodyPost_end (results_none rfl _ _ _) rfl HE.out
set_option maxRecDepth 100000 in
theorem stable_nil (w : World) : Calls Tryz.prog 32 #[.slice none 0 0, .int .i64 0, .func (.func 17) #[] #[]] w (NlPost w) := by
  have HE : Hid (NlPost w (.returned (.tuple #[])) w) := ⟨⟨_, rfl⟩, rfl⟩
  go_enter Tryz.func32, Tryz.ntmps32
  go_wp2_with fail
  go_loopw [7, 8] (fun av bv wr => av = .int .i64 0 ∧ bv = .int .i64 20 ∧ wr = w) (fun _ _ _ => 0)
  case atStart => exact ⟨rfl, rfl, rfl⟩
  case round =>
    obtain ⟨rfl, rfl, rfl⟩ := hrel
    go_wp2_with fail
    refine (ins_nil _).mono ?_
    rintro e w2 ⟨⟨v, rfl⟩, hw2⟩
    subst hw2
    go_wp2_with fail
    go_loopw [6] (fun bv wq => bv = .int .i64 20 ∧ Hid (NlPost w2 (.returned (.tuple #[])) wq)) (fun _ _ => 0)
    case atStart => exact ⟨rfl, HE⟩
    case round =>
      obtain ⟨rfl, HE2⟩ := hrel
      go_wp2_with fail
      exact bodyPost_end (results_none rfl _ _ _) rfl HE2.out
set_option maxRecDepth 100000 in
theorem sort_nil (w : World) : Calls Tryz.prog 16 #[.slice none 0 0, .func (.func 17) #[] #[]] w (NlPost w) := by
  go_enter Tryz.func16, Tryz.ntmps16
  go_wp2_with fail
  refine (stable_nil _).mono ?_
  rintro e w2 ⟨⟨v, rfl⟩, rfl⟩
  go_wp2_with fail
  exact bodyPost_end (results_none rfl _ _ _) rfl ⟨⟨_, rfl⟩, rfl⟩
end Go.Proofs.YtgjcopabmdbenaaGreat

/- Facts in memory; what fold.Facts makes of them. -/
namespace Go.Proofs.YtgjcopabmdbenaaGreat
open Go.RowKit Go.Shelf

/-- A fact. -/
structure Fa where
  v : Value
  D : List ByteArray
  t : Int
  x : Int
def c3 (f : Fa) : List Value := [f.v, .int .i64 f.t, .int .i64 f.x]
structure FaB (f : Fa) : Prop where
  t1 : -9223372036854775808 ≤ f.t
  t2 : f.t ≤ 9223372036854775807
  x1 : -9223372036854775808 ≤ f.x
  x2 : f.x ≤ 9223372036854775807
/-- A slice reads these facts. -/
def FReads (w : World) (v : Value) (fs : List Fa) : Prop :=
  ∃ a cap, v = .slice a fs.length cap ∧ fs.length ≤ cap ∧ cap ≤ maxLen ∧ (fs = [] ∨ ∃ b off, a = some ⟨b, off, none⟩ ∧ b < w.heap.size ∧ ∀ j (hj : j < fs.length), (∀ i (hi : i < 3), w.cell? ⟨b, off + j * 3 + i, none⟩ = some ((c3 fs[j])[i]'hi)) ∧ SReads w fs[j].v fs[j].D ∧ FaB fs[j])
theorem FReads.below {w w' : World} {v : Value} {fs : List Fa} (h : FReads w v fs) (hb : Below w.heap.size w w') : FReads w' v fs := by
  obtain ⟨a, cap, rfl, h1, h2, h3⟩ := h
  refine ⟨a, cap, rfl, h1, h2, ?_⟩
  rcases h3 with h3 | ⟨b, off, h4, h5, h6⟩
  · exact .inl h3
  · refine .inr ⟨b, off, h4, Nat.lt_of_lt_of_le h5 hb.size, fun j hj => ?_⟩
    obtain ⟨g1, g2, g3⟩ := h6 j hj
    exact ⟨fun i hi => (hb.cell (p := ⟨b, off + j * 3 + i, none⟩) h5).trans (g1 i hi), g2.below hb, g3⟩
theorem FReads.form {w : World} {v : Value} {fs : List Fa} (h : FReads w v fs) : ∃ a cap, v = .slice a fs.length cap ∧ fs.length ≤ cap ∧ cap ≤ maxLen := by
  obtain ⟨a, cap, rfl, h1, h2, _⟩ := h
  exact ⟨a, cap, rfl, h1, h2⟩
theorem FReads.at {w : World} {a : Option Addr} {n cap : Nat} {fs : List Fa} (h : FReads w (.slice a n cap) fs) {j : Nat} (hj : j < fs.length) : ∃ b off, a = some ⟨b, off, none⟩ ∧ b < w.heap.size ∧ (∀ i (hi : i < 3), w.cell? ⟨b, off + j * 3 + i, none⟩ = some ((c3 fs[j])[i]'hi)) ∧ SReads w fs[j].v fs[j].D ∧ FaB fs[j] := by
  obtain ⟨a', cap', hv, _, _, h3⟩ := h
  simp at hv
  obtain ⟨rfl, rfl, rfl⟩ := hv
  rcases h3 with rfl | ⟨b, off, rfl, h5, h6⟩
  · simp at hj
  · exact ⟨b, off, rfl, h5, (h6 j hj).1, (h6 j hj).2.1, (h6 j hj).2.2⟩
theorem sreads_lt {w : World} {v : Value} {D : List ByteArray} (h : SReads w v D) (h0 : 0 < D.length) : ∀ b, v.ownBlock = some b → b < w.heap.size := by
  intro b hb
  rcases h with ⟨rfl, _⟩ | ⟨b', off, cap, h1, h2, h3, h4, h5, _⟩
  · simp at h0
  · rw [h1] at hb
    simp only [Value.ownBlock] at hb
    cases hb; exact h5
/-- May it be a fact? -/
def mayF (f : Fa) : Bool := isT f.t && mayB f.D
/-- What is known of a fact, at its bucket at the first step. -/
def fcE (R : Rl) (f : Fa) : En := (kb f.D (f.t - f.t % R.sz 0) 0, oneF f.x)
def fcI (R : Rl) (f : Fa) : It := ⟨f.v, f.D, f.t - f.t % R.sz 0, 0, oneF f.x⟩
theorem fcI_E (R : Rl) (f : Fa) : itE (fcI R f) = fcE R f := rfl
theorem oneF_gd (x : Int) : Gd (oneF x) := by
  refine ⟨⟨by show (0 : Int) ≤ 1; decide, by show (1 : Int) < 18446744073709551616; decide⟩, ?_, fun h => ?_⟩
  · unfold rightB oneF; simp
  · unfold oneF at h; simp at h
theorem floor0 {R : Rl} (hR : RightP R) {t : Int} (ht : isT t = true) : 0 ≤ t - t % R.sz 0 ∧ t - t % R.sz 0 ≤ t ∧ t ≤ 1099511627776 := by
  have h1 := (isT_iff _).1 ht
  have h2 := (isS_iff _).1 (sz_ok hR (i := 0) (by have := hR.1; omega))
  have h3 := mod_bd t (R.sz 0) h1.1 h2.1
  omega
theorem fcI_ok {R : Rl} (hR : RightP R) {f : Fa} (h : mayF f = true) : ItOk R (fcI R f) := by
  unfold mayF at h
  simp only [Bool.and_eq_true] at h
  have h0 := floor0 hR h.1
  have hl := hR.1
  refine ⟨?_, ?_, (oneF_gd f.x).c, by show (1 : Int) ≠ 0; decide, (oneF_gd f.x).r⟩
  · unfold rightBK fcI
    dsimp only
    rw [h.2, Bool.true_and, decide_eq_true_eq]
    omega
  · refine (begB_iff hR).2 ⟨by show 0 < R.len; omega, (isT_iff _).2 ⟨h0.1, by show f.t - f.t % R.sz 0 ≤ _; omega⟩, ?_⟩
    show (f.t - f.t % R.sz 0) % R.sz 0 = 0
    rw [fl_eq]
    exact Int.mul_emod_right ..
theorem fcI_b {R : Rl} (hR : RightP R) {f : Fa} (h : isT f.t = true) : ItB (fcI R f) := by
  have h0 := floor0 hR h
  exact ⟨by show (-9223372036854775808 : Int) ≤ f.t - f.t % R.sz 0; omega, by show f.t - f.t % R.sz 0 ≤ (9223372036854775807 : Int); omega, by show ((0 : Nat) : Int) ≤ _; decide⟩
def FcPost (R : Rl) (wm : Int) (fs : List Fa) (w : World) (e : Ending) (w' : World) : Prop :=
  Below w.heap.size w w' ∧ ((fE R 0 wm ≠ 0 ∧ e = .returned (.tuple #[.slice none 0 0, .int .i64 (fE R 0 wm)])) ∨ (fE R 0 wm = 0 ∧ fs.all mayF = false ∧ e = .returned (.tuple #[.slice none 0 0, .int .i64 110])) ∨ (fE R 0 wm = 0 ∧ fs.all mayF = true ∧ ∃ v, e = .returned (.tuple #[v, .int .i64 0]) ∧ EReads w' v (foldF R wm (fs.map (fcE R)))))
/-- What the loop of Facts keeps: items of one's own. -/
structure FcI (R : Rl) (w w1 : World) (fs : List Fa) (k : Nat) (v : Value) (wr : World) : Prop where
  r : wr.ownsRow w1.heap.size 59 9 v k (((fs.take k).map (fcI R)).flatMap c9)
  m : ∀ j (hj : j < fs.length), j < k → mayF fs[j] = true
  b : Below w1.heap.size w1 wr
theorem FcI.below {R : Rl} {w w1 : World} {fs : List Fa} {k : Nat} {v : Value} {wr W : World} (h : FcI R w w1 fs k v wr) (hb : Below wr.heap.size wr W) : FcI R w w1 fs k v W := ⟨row_below h.r hb, h.m, h.b.trans (hb.mono h.b.size)⟩
theorem all_may {fs : List Fa} (h : ∀ j (hj : j < fs.length), mayF fs[j] = true) : fs.all mayF = true := by
  rw [List.all_eq_true]
  intro x hx
  obtain ⟨j, hj, rfl⟩ := List.getElem_of_mem hx
  exact h j hj
theorem all_not {fs : List Fa} {k : Nat} (hk : k < fs.length) (h : mayF fs[k] = false) : fs.all mayF = false := by
  rw [List.all_eq_false]
  exact ⟨_, List.getElem_mem hk, by rw [h]; simp⟩
theorem perm_fold {R : Rl} {wm : Int} {A B : List En} (hp : A.Perm B) (hg : GdE A) : foldF R wm A = foldF R wm B := by
  unfold foldF
  exact can_perm (fm_perm _ hp) (fm_gd _ hg)
end Go.Proofs.YtgjcopabmdbenaaGreat
