/- FL5 FL6 FL7 FL8 FL9 FL10 FL11 FL12 FL13 FL14, joined. -/
import Derived.Test.YtbadjigfcncfcaaJ5
import Derived.Laws.CopyRow
import Derived.Lib.Overlaps
import Derived.Lib.AppendZerosOnto
import Derived.Laws.Externs
import Derived.Shelf.Abstract
import Derived.BigQuiet
import Derived.Deep.QuietTactic
/- The contracts of fold's Stale and Fits. -/
namespace Go.Proofs.Ytbadjigfcncfcaa
open Go.RowKit

theorem TReads.at {w : World} {a : Option Addr} {n cap : Nat} {xs : List It} (h : TReads w (.slice a n cap) xs) {j : Nat} (hj : j < xs.length) : ∃ b off, a = some ⟨b, off, none⟩ ∧ b < w.heap.size ∧ (∀ i (hi : i < 9), w.cell? ⟨b, off + j * 9 + i, none⟩ = some ((c9 xs[j])[i]'hi)) ∧ SReads w xs[j].v xs[j].D := by
  obtain ⟨a', cap', hv, _, _, h3⟩ := h
  simp at hv
  obtain ⟨rfl, rfl, rfl⟩ := hv
  rcases h3 with rfl | ⟨b, off, rfl, h5, h6⟩
  · simp at hj
  · exact ⟨b, off, rfl, h5, (h6 j hj).1, (h6 j hj).2⟩
/-- Is what comes of an item something else? -/
noncomputable def itS (R : Rl) (wm : Int) (x : It) : Bool := !((flq R wm x.f x.g == x.f) && ((((stq R wm x.f x.g : Nat) : Int) == (x.g : Int)) && (goneB R wm x.f == false)))
theorem ItOk.beg {R : Rl} (hR : RightP R) {x : It} (h : ItOk R x) : Beg R x.f x.g := (begB_iff hR).1 h.b
theorem itS_iff {R : Rl} (hR : RightP R) {wm : Int} {x : It} (h : ItOk R x) : itS R wm x = decide (fk R wm (itE x).1 ≠ some (itE x).1) := by
  have h1 := rdF_kb x.D x.f (x.g : Int) h.r
  have h2 := fk_stale hR (w := wm) h1 (by rw [Int.toNat_natCast]; exact (h.beg hR).gl)
  rw [Int.toNat_natCast] at h2
  unfold itS itE
  dsimp only
  rw [Bool.eq_iff_iff]
  simp only [Bool.not_eq_true', Bool.and_eq_false_imp, beq_iff_eq, decide_eq_true_eq, ne_eq, h2]
  constructor
  · intro h3 h4
    have := h3 h4.1 h4.2.1
    rw [h4.2.2] at this
    simp at this
  · intro h3 h4 h5
    have : goneB R wm x.f ≠ false := fun h6 => h3 ⟨h4, h5, h6⟩
    simpa using this
theorem stale_its {R : Rl} (hR : RightP R) {wm : Int} {xs : List It} {L : List En} (hm : xs.map itE = L) (hok : ∀ x ∈ xs, ItOk R x) : staleF R wm L = xs.any (itS R wm) := by
  subst hm
  unfold staleF
  rw [List.any_map]
  induction xs with
  | nil => rfl
  | cons x xs ih =>
    rw [List.any_cons, List.any_cons, ih (fun y hy => hok y (List.mem_cons_of_mem _ hy)), itS_iff hR (hok x (List.mem_cons_self ..))]
    rfl
noncomputable def stB (R : Rl) (wm : Int) (L : List En) : Bool := if chkF R wm L = 0 then staleF R wm L else false
def SlPost (R : Rl) (wm : Int) (L : List En) (w : World) (e : Ending) (w' : World) : Prop := e = .returned (.tuple #[.bool (stB R wm L), .int .i64 (chkF R wm L)]) ∧ Below w.heap.size w w'
set_option maxRecDepth 100000 in
set_option maxHeartbeats 4000000 in
theorem stale_any (R : Rl) (wm : Int) (v : Value) (L : List En) (w : World) (hL : Lies R w.heap.size w) (hE : EReads w v L) (hl : L.length ≤ 100000) (hk : ∀ x ∈ L, x.1.length ≤ 1000) :
    Calls Try.prog 16 #[.agg #[.slice R.a R.len R.cap, .int .i64 R.kp], .int .i64 wm, v] w (SlPost R wm L w) := by
  have HE : Hid (EReads w v L) := hE
  have HL : Hid (Lies R w.heap.size w) := hL
  have HK : Hid _ := hk
  obtain ⟨a, cap, rfl, hm1, hm2⟩ := hE.form
  unfold maxLen at hm2
  clear hE hL hk
  obtain ⟨w1, HW1⟩ := hid_ex (w.alloc (.cells #[.slice R.a R.len R.cap, .int .i64 R.kp] 33))
  have hb1 : Below w.heap.size w w1 := by rw [HW1.out]; exact new_below _ _
  have HX1 : Hid (RBox R w.heap.size w1) := by rw [HW1.out]; exact RBox.new R w _
  have HL1 : Hid (Lies R w1.heap.size w1) := HL.out.at hb1
  have HE1 : Hid (EReads w1 (.slice a L.length cap) L) := HE.out.below hb1
  have HB1 : Hid _ := hb1
  clear hb1
  go_enter Try.func16, Try.ntmps16
  go_wp2_with fail
  rw [← HW1.out]
  clear HW1
  refine (checked_any R wm _ L _ HL1.out HE1.out hl HK.out).mono ?_
  rintro e w2 ⟨hb2, ⟨hne, rfl⟩ | ⟨hz, xa, xc, xs, rfl, ht, hm, hok⟩⟩
  · have hb0 : (chkF R wm L == 0) = false := by simp [hne]
    have HS : Hid (stB R wm L = false) := by unfold Hid stB; rw [if_neg hne]
    have HB2 : Hid (Below w.heap.size w w2) := HB1.out.trans (hb2.mono HB1.out.size)
    have HEnd : Hid (SlPost R wm L w (.returned (.tuple #[.bool false, .int .i64 (chkF R wm L)])) w2) := ⟨by rw [HS.out], HB2.out⟩
    clear hne hb2 HS
    generalize chkF R wm L = rr at *
    go_wp2_with fail
    go_ret2
    exact HEnd.out
  · obtain ⟨_, hR, hwt, _, _⟩ := chkF_ok hz
    have HS : Hid (stB R wm L = xs.any (itS R wm)) := by unfold Hid stB; rw [if_pos hz]; exact stale_its hR hm hok
    have HB2 : Hid (Below w.heap.size w w2) := HB1.out.trans (hb2.mono HB1.out.size)
    have HX2 : Hid (RBox R w.heap.size w2) := HX1.out.below hb2
    have HT : Hid (TReads w2 (.slice xa L.length xc) xs) := ht
    have hxl : xs.length = L.length := by rw [← hm]; simp
    have HOK : Hid _ := hok
    have HR : Hid (RightP R) := hR
    have HEnd : Hid (∀ W b, xs.any (itS R wm) = b → Below w2.heap.size w2 W → SlPost R wm L w (.returned (.tuple #[.bool b, .int .i64 0])) W) := fun W b h1 h2 => ⟨by rw [HS.out, hz, h1], HB2.out.trans (h2.mono HB2.out.size)⟩
    clear hz hb2 ht hm hok hR HB1 HX1 HL1 HE1 HS
    rw [← hxl] at HT ⊢
    go_wp2_with fail
    go_loopw [24] (fun i wr => ∃ k : Nat, i = .int .i64 (k : Int) ∧ k ≤ xs.length ∧ Hid ((xs.take k).any (itS R wm) = false) ∧ Hid (Below w2.heap.size w2 wr)) (fun i _ => xs.length - (intOf i).toNat)
    case atStart => exact ⟨0, rfl, by omega, rfl, Below.refl _ _⟩
    case round =>
      obtain ⟨k, rfl, hk, HP, HW⟩ := hrel
      by_cases hlt : k < xs.length
      · obtain ⟨b, off, rfl, hbw, hcw, hsr⟩ := HT.out.at hlt
        have hok := HOK.out xs[k] (List.getElem_mem hlt)
        have HN : Hid ((xs.take (k + 1)).any (itS R wm) = itS R wm xs[k]) := by
          unfold Hid
          rw [List.take_add_one, List.getElem?_eq_getElem hlt, List.any_append, HP.out]; simp
        have HA : Hid (itS R wm xs[k] = true → xs.any (itS R wm) = true) := fun h => List.any_eq_true.2 ⟨_, List.getElem_mem hlt, h⟩
        have hc : ∀ i (hi : i < 9), wr.cell? ⟨b, off + k * 9 + i, none⟩ = some ((c9 xs[k])[i]'hi) := fun i hi => (HW.out.cell (p := ⟨b, off + k * 9 + i, none⟩) hbw).trans (hcw i hi)
        obtain ⟨X, HX⟩ := hid_ex xs[k]
        rw [← HX.out] at hc hok HN HA hsr
        have hbeg := hok.beg HR.out
        obtain ⟨va, vc, hvd, _⟩ := hsr.form
        obtain ⟨dn, Hdn⟩ := hid_ex X.D.length
        rw [← Hdn.out] at hvd
        have c0 := hc 0 (by decide)
        have c1 := hc 1 (by decide)
        have c2 := hc 2 (by decide)
        have c3 := hc 3 (by decide)
        have c4 := hc 4 (by decide)
        have c5 := hc 5 (by decide)
        have c6 := hc 6 (by decide)
        have c7 := hc 7 (by decide)
        have c8 := hc 8 (by decide)
        simp only [c9, List.getElem_cons_zero, List.getElem_cons_succ, Nat.add_zero] at c0 c1 c2 c3 c4 c5 c6 c7 c8
        rw [hvd] at c0
        obtain ⟨w3, HW3⟩ := hid_ex (wr.alloc (.cells #[.slice va dn vc, .int .i64 X.f, .int .i64 (X.g : Int), .int .u64 X.a.c, .bool X.a.o, .int .i64 (hi X.a.s), .int .u64 (lo X.a.s), .int .i64 X.a.mn, .int .i64 X.a.mx] 75))
        have hb3 : Below wr.heap.size wr w3 := by rw [HW3.out]; exact new_below _ _
        have HB3 : Hid (Below w2.heap.size w2 w3) := HW.out.trans (hb3.mono HW.out.size)
        have HBX : Hid (w3.heap[wr.heap.size]? = some (.cells #[.slice va dn vc, .int .i64 X.f, .int .i64 (X.g : Int), .int .u64 X.a.c, .bool X.a.o, .int .i64 (hi X.a.s), .int .u64 (lo X.a.s), .int .i64 X.a.mn, .int .i64 X.a.mx] 75)) := by rw [HW3.out]; exact heap_alloc_new _ _
        have HLI : Hid (∀ W, Below w3.heap.size w3 W → Lies R W.heap.size W ∧ RBox R w.heap.size W) := fun W hW => by
          have h1 : Below w2.heap.size w2 W := HB3.out.trans (hW.mono HB3.out.size)
          exact ⟨HL.out.at (HB2.out.trans (h1.mono HB2.out.size)), HX2.out.below h1⟩
        have HFO : Hid (∀ W, Lies R W.heap.size W → Calls Try.prog 29 #[.agg #[.slice R.a R.len R.cap, .int .i64 R.kp], .int .i64 wm, .agg #[.slice va dn vc, .int .i64 X.f, .int .i64 (X.g : Int)]] W fun e w' => e = .returned (fateV R wm X.f X.g) ∧ Below W.heap.size W w') := fun W hW => fateOf_any R HR.out wm hwt va dn vc X.f X.g hbeg.t hbeg.gl W hW
        unfold itS at HN HA
        unfold fateV at HFO
        obtain ⟨fr, Hfr⟩ := hid_ex (flq R wm X.f X.g)
        obtain ⟨q, Hq⟩ := hid_ex (stq R wm X.f X.g)
        obtain ⟨gn, Hgn⟩ := hid_ex (goneB R wm X.f)
        rw [← Hfr.out, ← Hq.out, ← Hgn.out] at HN HA
        rw [← Hfr.out, ← Hq.out, ← Hgn.out] at HFO
        clear hc hcw hsr hb3 hok hbeg Hfr Hq Hgn HX
        go_wp2_with fail
        rw [← HW3.out]
        clear HW3 c0 c1 c2 c3 c4 c5 c6 c7 c8
        refine wp_region_noPanic ?_
        refine wp_region_held_drew (S := (fun w' => Below w3.heap.size w3 w')) (by kernel_rfl) ?_ (fun hHeld => ?_)
        · exact (Below.refl _ _).drew
        refine wpAnyH_take (i := 0) (v := .agg #[.slice R.a R.len R.cap, .int .i64 R.kp]) rfl (by kernel_rfl) (by kernel_rfl) (by kernel_rfl) (fun _ _ _ h => h) (Or.inl ⟨by rfl, ?_⟩) (by assumption) ?_
        · (intro w1 hSw; (try dsimp only at hSw); obtain ⟨r0, r1⟩ := (HLI.out _ hSw).2.at; go_simp)
        simp only [List.getElem_toArray, List.getElem_cons_zero, Act.put, List.setIfInBounds_toArray, List.set_cons_zero, List.set_cons_succ]
        refine wpAnyH_take (i := 1) (v := .int .i64 wm) rfl (by kernel_rfl) (by kernel_rfl) (by kernel_rfl) (fun _ _ _ h => h) (Or.inl ⟨by rfl, ?_⟩) (by assumption) ?_
        · (intro w1 hSw; (try dsimp only at hSw); go_simp)
        simp only [List.getElem_toArray, List.getElem_cons_succ, List.getElem_cons_zero, Act.put, List.setIfInBounds_toArray, List.set_cons_zero, List.set_cons_succ]
        refine wpAnyH_take (i := 2) (v := .pointer (some ⟨wr.heap.size, 0, none⟩)) rfl (by kernel_rfl) (by kernel_rfl) (by kernel_rfl) (fun _ _ _ h => h) (Or.inl ⟨by rfl, ?_⟩) (by assumption) ?_
        · (intro w1 hSw; (try dsimp only at hSw); go_simp)
        simp only [List.getElem_toArray, List.getElem_cons_succ, List.getElem_cons_zero, Act.put, List.setIfInBounds_toArray, List.set_cons_zero, List.set_cons_succ]
        refine wpAnyH_take (i := 3) (v := .agg #[.slice va dn vc, .int .i64 X.f, .int .i64 (X.g : Int)]) rfl (by kernel_rfl) (by kernel_rfl) (by kernel_rfl) (fun _ _ _ h => h) (Or.inl ⟨by rfl, ?_⟩) (by assumption) ?_
        · (intro w1 hSw; (try dsimp only at hSw); have hxx := (hSw.block _ (Array.getElem?_eq_some_iff.1 HBX.out).1).trans HBX.out; have h0 := (cell_row hxx 0 (by simp)).1; have h1 := (cell_row hxx 1 (by simp)).1; have h2 := (cell_row hxx 2 (by simp)).1; simp only [List.getElem_toArray, List.getElem_cons_succ, List.getElem_cons_zero] at h0 h1 h2; go_simp)
        simp only [List.getElem_toArray, List.getElem_cons_succ, List.getElem_cons_zero, Act.put, List.setIfInBounds_toArray, List.set_cons_zero, List.set_cons_succ]
        refine wpAnyH_take (i := 5) (v := .pointer (some ⟨wr.heap.size, 0, none⟩)) rfl (by kernel_rfl) (by kernel_rfl) (by kernel_rfl) (fun _ _ _ h => h) (Or.inl ⟨by rfl, ?_⟩) (by assumption) ?_
        · (intro w1 hSw; (try dsimp only at hSw); go_simp)
        simp only [List.getElem_toArray, List.getElem_cons_succ, List.getElem_cons_zero, Act.put, List.setIfInBounds_toArray, List.set_cons_zero, List.set_cons_succ]
        refine wpAnyH_take (i := 6) (v := .pointer (some ⟨wr.heap.size, 1, none⟩)) rfl (by kernel_rfl) (by kernel_rfl) (by kernel_rfl) (fun _ _ _ h => h) (Or.inl ⟨by rfl, ?_⟩) (by assumption) ?_
        · (intro w1 hSw; (try dsimp only at hSw); go_simp)
        simp only [List.getElem_toArray, List.getElem_cons_succ, List.getElem_cons_zero, Act.put, List.setIfInBounds_toArray, List.set_cons_zero, List.set_cons_succ]
        refine wpAnyH_take (i := 7) (v := .int .i64 X.f) rfl (by kernel_rfl) (by kernel_rfl) (by kernel_rfl) (fun _ _ _ h => h) (Or.inl ⟨by rfl, ?_⟩) (by assumption) ?_
        · (intro w1 hSw; (try dsimp only at hSw); have hxx := (hSw.block _ (Array.getElem?_eq_some_iff.1 HBX.out).1).trans HBX.out; have h1 := (cell_row hxx 1 (by simp)).1; simp only [List.getElem_toArray, List.getElem_cons_succ, List.getElem_cons_zero] at h1; go_simp)
        simp only [List.getElem_toArray, List.getElem_cons_succ, List.getElem_cons_zero, Act.put, List.setIfInBounds_toArray, List.set_cons_zero, List.set_cons_succ]
        refine wpAnyH_take (i := 8) (v := .pointer (some ⟨wr.heap.size, 0, none⟩)) rfl (by kernel_rfl) (by kernel_rfl) (by kernel_rfl) (fun _ _ _ h => h) (Or.inl ⟨by rfl, ?_⟩) (by assumption) ?_
        · (intro w1 hSw; (try dsimp only at hSw); go_simp)
        simp only [List.getElem_toArray, List.getElem_cons_succ, List.getElem_cons_zero, Act.put, List.setIfInBounds_toArray, List.set_cons_zero, List.set_cons_succ]
        refine wpAnyH_take (i := 9) (v := .pointer (some ⟨wr.heap.size, 2, none⟩)) rfl (by kernel_rfl) (by kernel_rfl) (by kernel_rfl) (fun _ _ _ h => h) (Or.inl ⟨by rfl, ?_⟩) (by assumption) ?_
        · (intro w1 hSw; (try dsimp only at hSw); go_simp)
        simp only [List.getElem_toArray, List.getElem_cons_succ, List.getElem_cons_zero, Act.put, List.setIfInBounds_toArray, List.set_cons_zero, List.set_cons_succ]
        refine wpAnyH_take (i := 10) (v := .int .i64 (X.g : Int)) rfl (by kernel_rfl) (by kernel_rfl) (by kernel_rfl) (fun _ _ _ h => h) (Or.inl ⟨by rfl, ?_⟩) (by assumption) ?_
        · (intro w1 hSw; (try dsimp only at hSw); have hxx := (hSw.block _ (Array.getElem?_eq_some_iff.1 HBX.out).1).trans HBX.out; have h2 := (cell_row hxx 2 (by simp)).1; simp only [List.getElem_toArray, List.getElem_cons_succ, List.getElem_cons_zero] at h2; go_simp)
        simp only [List.getElem_toArray, List.getElem_cons_succ, List.getElem_cons_zero, Act.put, List.setIfInBounds_toArray, List.set_cons_zero, List.set_cons_succ]
        refine wpAnyH_take (i := 11) (v := .agg #[.int .i64 X.f, .int .i64 (X.g : Int), .bool false]) rfl (by kernel_rfl) (by kernel_rfl) (by kernel_rfl) (fun _ _ _ h => h) (Or.inl ⟨by rfl, ?_⟩) (by assumption) ?_
        · (intro w1 hSw; (try dsimp only at hSw); go_simp)
        simp only [List.getElem_toArray, List.getElem_cons_succ, List.getElem_cons_zero, Act.put, List.setIfInBounds_toArray, List.set_cons_zero, List.set_cons_succ]
        refine wpAnyH_ready (rs := [4]) (by kernel_rfl) (by simp) ?_
        refine AllReadyH.cons (o := _) rfl (fun K hK => ?_) AllReadyH.nil
        go_simp
        refine (HFO.out _ (HLI.out _ (Below.refl _ _).drew).1).mono ?_
        rintro e w4 ⟨rfl, hb4⟩
        have HW4 : Hid (Below w3.heap.size w3 w4) := (Below.refl w3.heap.size w3).drew.trans hb4
        clear hb4
        refine hK.out _ _ ?_ (fun hHeld => ?_)
        · exact HW4.out
        clear hK K
        refine wpAnyH_take (i := 12) (v := .bool (!((fr == X.f) && (((q : Int) == (X.g : Int)) && (gn == false))))) rfl (by kernel_rfl) (by kernel_rfl) (by kernel_rfl) (fun _ _ _ h => h) (Or.inl ⟨by rfl, ?_⟩) (by assumption) ?_
        · (intro w1 hSw; (try dsimp only at hSw); go_simp; (by_cases h1 : fr = X.f <;> by_cases h2 : ((q : Nat) : Int) = ((X.g : Nat) : Int) <;> cases gn <;> simp [h1, h2]))
        simp only [List.getElem_toArray, List.getElem_cons_succ, List.getElem_cons_zero, Act.put, List.setIfInBounds_toArray, List.set_cons_zero, List.set_cons_succ]
        clear hHeld
        refine wpAnyH_done (by kernel_rfl) ?_ _
        refine NoPanic.normal ?_
        obtain ⟨d, Hd⟩ := hid_ex (!((fr == X.f) && (((q : Int) == (X.g : Int)) && (gn == false))))
        rw [← Hd.out] at HN HA ⊢
        clear Hd
        cases d with
        | true =>
          have HE4 : Hid (SlPost R wm L w (.returned (.tuple #[.bool true, .int .i64 0])) w4) := HEnd.out _ _ (HA.out rfl) (HB3.out.trans (HW4.out.mono HB3.out.size))
          go_wp2_with fail
          go_ret2
          exact HE4.out
        | false =>
          have HB4 : Hid (Below w2.heap.size w2 w4) := HB3.out.trans (HW4.out.mono HB3.out.size)
          go_wp2_with fail
          go_roundw
          case rel => exact ⟨k + 1, by go_num, by omega, HN, HB4⟩
          case measure => simp [intOf]; omega
      · obtain rfl : k = xs.length := by omega
        have HE4 : Hid (SlPost R wm L w (.returned (.tuple #[.bool false, .int .i64 0])) wr) := HEnd.out _ _ (by have := HP.out; rw [List.take_length] at this; exact this) HW.out
        go_wp2_with fail
        go_ret2
        exact HE4.out
/-- What Fits tells. -/
noncomputable def fitsA (R : Rl) (L : List En) : Bool := open Classical in decide (L = [] ∨ (RightP R ∧ FitL R L))
def FsPost (R : Rl) (L : List En) (w : World) (e : Ending) (w' : World) : Prop := e = .returned (.bool (fitsA R L)) ∧ Below w.heap.size w w'
theorem fitsA_of {R : Rl} {L : List En} {b : Bool} (h : b = true ↔ (L = [] ∨ (RightP R ∧ FitL R L))) : fitsA R L = b := by
  unfold fitsA
  rw [Bool.eq_iff_iff]
  simp only [decide_eq_true_eq]
  exact h.symm
set_option maxRecDepth 100000 in
set_option maxHeartbeats 4000000 in
theorem fits_any (R : Rl) (v : Value) (L : List En) (w : World) (hL : Lies R w.heap.size w) (hE : EReads w v L) (hl : L.length ≤ 100000) (hk : ∀ x ∈ L, x.1.length ≤ 1000) :
    Calls Try.prog 17 #[.agg #[.slice R.a R.len R.cap, .int .i64 R.kp], v] w (FsPost R L w) := by
  have HE : Hid (EReads w v L) := hE
  have HL : Hid (Lies R w.heap.size w) := hL
  have HK : Hid _ := hk
  obtain ⟨a, cap, rfl, hm1, hm2⟩ := hE.form
  unfold maxLen at hm2
  clear hE hL hk
  obtain ⟨w1, HW1⟩ := hid_ex (w.alloc (.cells #[.slice R.a R.len R.cap, .int .i64 R.kp] 33))
  have hb1 : Below w.heap.size w w1 := by rw [HW1.out]; exact new_below _ _
  have HX1 : Hid (RBox R w.heap.size w1) := by rw [HW1.out]; exact RBox.new R w _
  have HL1 : Hid (Lies R w1.heap.size w1) := HL.out.at hb1
  have HE1 : Hid (EReads w1 (.slice a L.length cap) L) := HE.out.below hb1
  have HB1 : Hid _ := hb1
  clear hb1
  go_enter Try.func17, Try.ntmps17
  go_wp2_with fail
  rw [← HW1.out]
  clear HW1
  refine (read15_any R _ L _ HL1.out HE1.out hl HK.out).mono ?_
  rintro e w2 ⟨hb2, ⟨hfb, rfl⟩ | ⟨hfb, xa, xc, xs, rfl, ht, hm, hok⟩⟩
  · have HB2 : Hid (Below w.heap.size w w2) := HB1.out.trans (hb2.mono HB1.out.size)
    have hne : L ≠ [] := fun h => by rw [h] at hfb; cases hfb
    have hfa : fitsA R L = false := by
      refine fitsA_of ⟨fun h => (by cases h), ?_⟩
      rintro (h | ⟨h1, h2⟩)
      · exact absurd h hne
      · rw [(fitsB_iff h1).2 h2] at hfb; cases hfb
    have HEnd : Hid (FsPost R L w (.returned (.bool false)) w2) := ⟨by rw [hfa], HB2.out⟩
    clear hfb hb2 hne hfa
    go_wp2_with fail
    go_ret
    exact HEnd.out
  · have HB2 : Hid (Below w.heap.size w w2) := HB1.out.trans (hb2.mono HB1.out.size)
    have HX2 : Hid (RBox R w.heap.size w2) := HX1.out.below hb2
    have HL2 : Hid (Lies R w2.heap.size w2) := HL.out.at HB2.out
    by_cases h0 : L.length = 0
    · have hnil : L = [] := List.length_eq_zero_iff.1 h0
      have HEnd : Hid (FsPost R L w (.returned (.bool true)) w2) := ⟨by rw [fitsA_of (b := true) ⟨fun _ => .inl hnil, fun _ => rfl⟩], HB2.out⟩
      have hb0 : ((L.length : Int) == 0) = true := by simp [h0]
      clear hfb hb2 hnil h0 ht hm hok
      go_wp2_with fail
      go_ret
      exact HEnd.out
    · have hne : L ≠ [] := fun h => by rw [h] at h0; simp at h0
      have hb0 : ((L.length : Int) == 0) = false := by simp; omega
      have HFI : Hid (∀ W b, decide (RightP R) = b → Below w2.heap.size w2 W → FsPost R L w (.returned (.bool b)) W) := fun W b h1 h2 => ⟨by
        rw [fitsA_of (b := b)]
        rw [← h1, decide_eq_true_eq]
        constructor
        · intro h; exact .inr ⟨h, (fitsB_iff h).1 hfb⟩
        · rintro (h | ⟨h, _⟩)
          · exact absurd h hne
          · exact h, HB2.out.trans (h2.mono HB2.out.size)⟩
      obtain ⟨r0, r1⟩ := HX2.out.at
      clear hfb hb2 hne h0 ht hm hok
      go_wp2_with fail
      refine (right_anyG R _ HL2.out).mono ?_
      rintro e w3 ⟨rfl, hb3⟩
      have HE3 : Hid (FsPost R L w (.returned (.bool (decide (RightP R)))) w3) := HFI.out _ _ rfl hb3
      obtain ⟨d, Hd⟩ := hid_ex (decide (RightP R))
      rw [← Hd.out] at HE3 ⊢
      clear Hd hb3 r0 r1
      go_wp2_with fail
      go_ret
      exact HE3.out
end Go.Proofs.Ytbadjigfcncfcaa

/- The contract of slices.Insert of one entry. -/
namespace Go.Proofs.Ytbadjigfcncfcaa
open Go.RowKit

/-- A copy of elements of several cells, within rows. -/
theorem run_copy_rowK (w : World) (dT sT ty elem : TypeId) (size g o dLen dCap : Nat) (a : Addr) (sLen sCap m : Nat) (cur : Array Value) (t : TypeId) (cs : List Value)
    (hu : Try.prog.underlying dT = some (.slice elem)) (hs : (Try.prog.info? elem).map (·.size) = some size)
    (hg : w.heap[g]? = some (.cells cur t (0, 0))) (hm : Nat.min sLen dLen = m) (hn : cs.length = m * size)
    (hsrc : ∀ j v, cs[j]? = some v → w.cell? (a.add j) = some v) (hfit : o + cs.length ≤ cur.size) (h1 : ∀ v ∈ cs, v.oneCell' = true) :
    (Builtin.copy_ #[dT, sT] ty #[.slice (some ⟨g, o, none⟩) dLen dCap, .slice (some a) sLen sCap]).run Try.prog w =
      .ok (goInt m) (w.setRow g (cur.toList.take o ++ cs ++ cur.toList.drop (o + cs.length)).toArray) := by
  subst hm
  have hl := run_loadCells_list (P := Try.prog) w a cs hsrc
  have hst := run_storeCells_at Try.prog g o t cs 0 cur w hg (by simpa using hfit) h1
  rw [hn] at hl
  cases hq : Try.prog.info? elem with
  | none => simp [hq] at hs
  | some i =>
    have hi : i.size = size := by simpa [hq] using hs
    simp [Builtin.copy_, run_underlying hu, Builtin.lenOf, Builtin.firstCells, sizeOf, typeInfo, hq, hi, hl, hst]
theorem wp_copy_run {w w' : World} {o : Oper} {a : Act} {K : Act → World → Prop} {Q : Exit → Act → World → Prop} (d s : Operand) (t t' ty : TypeId) (ho : o.op = .call { callee := .builtin .copy, args := #[d, s], argTypes := #[t, t'] }) (hty : o.type = ty) (v u v' : Value) (hd : a.eval d = v) (hs : a.eval s = u)
    (hrun : (Builtin.copy_ #[t, t'] ty #[v, u]).run Try.prog w = .ok v' w') (h : K (a.put o.dst v') w') : o.wp Try.prog a w K Q := by
  subst hty
  unfold Oper.wp
  simp [execOp, ho, resolve, invoke, builtin, hd, hs, hrun, Result.andThen]
  exact h
theorem wpList_copy_run {w w' : World} {ops : Array Oper} {rest : List Oper} {o : Oper} {a : Act} {Q : Exit → Act → World → Prop} (hgd : o.guard = none) (d s : Operand) (t t' ty : TypeId) (ho : o.op = .call { callee := .builtin .copy, args := #[d, s], argTypes := #[t, t'] }) (hty : o.type = ty) (v u v' : Value) (hd : a.eval d = v) (hs : a.eval s = u)
    (hrun : (Builtin.copy_ #[t, t'] ty #[v, u]).run Try.prog w = .ok v' w') (h : wpList Try.prog ops Q rest (a.put o.dst v') w') : wpList Try.prog ops Q (o :: rest) a w :=
  wpList_plain hgd fun _ hK => wp_copy_run d s t t' ty ho hty v u v' hd hs hrun (hK _ _ h)
theorem wpList_appZ_run {w w' : World} {ops : Array Oper} {rest : List Oper} {o : Oper} {a : Act} {Q : Exit → Act → World → Prop} (hgd : o.guard = none) (s x : Operand) (t t' ty : TypeId) (ho : o.op = .call { callee := .builtin .append, args := #[s, x], argTypes := #[t, t'] }) (hty : o.type = ty) (v vx v' : Value) (hs : a.eval s = v) (hx : a.eval x = vx)
    (hrun : (Builtin.append_ #[t, t'] ty #[v, vx]).run Try.prog w = .ok v' w') (h : wpList Try.prog ops Q rest (a.put o.dst v') w') : wpList Try.prog ops Q (o :: rest) a w :=
  wpList_plain hgd fun _ hK => by
    subst hty
    unfold Oper.wp
    simp [execOp, ho, resolve, invoke, builtin, hs, hx, hrun, Result.andThen]
    exact hK _ _ h
theorem sizeE (w : World) : (sizeOf 59).run Try.prog w = .ok 7 w := by
  simp [sizeOf]
  rfl
theorem elemE : Try.prog.elem 25 = 59 := by kernel_rfl
theorem undE : Try.prog.underlying 25 = some (.slice (Try.prog.elem 25)) := by rw [elemE]; exact Try.underlying25
theorem esl_from (a : Option Addr) (n cap c : Nat) (hc : c ≤ n) (w : World) : (Instr.slice 25 (.slice a n cap) (some (.int .i64 (c : Int))) none none).run Try.prog w = .ok (sliced a c n cap 7) w := by
  rw [run_slice_l _ _ _ _ _ undE _ _ (by omega) (by omega), elemE, sizeE]
  rfl
theorem esl_upto (a : Option Addr) (n cap d : Nat) (hd : d ≤ cap) (w : World) : (Instr.slice 25 (.slice a n cap) none (some (.int .i64 (d : Int))) none).run Try.prog w = .ok (sliced a 0 d cap 7) w := by
  rw [run_slice_h _ _ _ _ _ undE _ _ (by omega) (by omega), elemE, sizeE]
  rfl
theorem sliced_some (g c d cap : Nat) (h : c < cap) : sliced (some ⟨g, 0, none⟩) c d cap 7 = .slice (some ⟨g, c * 7, none⟩) (d - c) (cap - c) := by
  unfold sliced
  rw [if_neg (by omega)]
  simp [Addr.add]
  omega
theorem flat7_take : ∀ (xs : List Ev) (i : Nat), (xs.flatMap c7).take (i * 7) = (xs.take i).flatMap c7
  | [], _ => by simp
  | x :: xs, 0 => by simp
  | x :: xs, i + 1 => by
    rw [List.take_succ_cons, List.flatMap_cons, List.flatMap_cons, ← flat7_take xs i, List.take_append, List.take_of_length_le (by rw [c7_len]; omega), c7_len, show (i + 1) * 7 - 7 = i * 7 by omega]
theorem flat7_drop : ∀ (xs : List Ev) (i : Nat), (xs.flatMap c7).drop (i * 7) = (xs.drop i).flatMap c7
  | [], _ => by simp
  | x :: xs, 0 => by simp
  | x :: xs, i + 1 => by
    rw [List.drop_succ_cons, List.flatMap_cons, ← flat7_drop xs i, List.drop_append, List.drop_of_length_le (by rw [c7_len]; omega), c7_len, show (i + 1) * 7 - 7 = i * 7 by omega]
    simp
/-- One more at a place. -/
def insE (xs : List Ev) (i : Nat) (y : Ev) : List Ev := xs.take i ++ y :: xs.drop i
theorem insE_flat (xs : List Ev) (i : Nat) (y : Ev) : (insE xs i y).flatMap c7 = (xs.flatMap c7).take (i * 7) ++ (c7 y ++ (xs.flatMap c7).drop (i * 7)) := by
  unfold insE
  rw [List.flatMap_append, List.flatMap_cons, flat7_take, flat7_drop]
theorem insE_len {xs : List Ev} {i : Nat} {y : Ev} (h : i ≤ xs.length) : (insE xs i y).length = xs.length + 1 := by
  unfold insE; simp; omega
theorem grown_setRow {A B : World} {row : Option Nat} {g : Nat} (h : A.grownBy B row) (hg : some g = row ∨ A.heap.size ≤ g) (cs : Array Value) : A.grownBy (B.setRow g cs) row :=
  ⟨h.os, h.tape, h.output, by simpa using h.size, fun k hk hne => by
    rw [setRow_other B g k cs (by rcases hg with e | e; exact fun e2 => hne (by rw [e2, e]); omega)]
    exact h.block k hk hne⟩
theorem grown_drew {A B : World} {row : Option Nat} (h : A.grownBy B row) : A.grownBy B.drew row := ⟨h.os, h.tape, h.output, h.size, h.block⟩
theorem grown_refl (A : World) (row : Option Nat) : A.grownBy A row := ⟨rfl, rfl, rfl, Nat.le_refl _, fun _ _ _ => rfl⟩
def InPost (w : World) (base : Nat) (v : Value) (xs : List Ev) (i : Nat) (y : Ev) (e : Ending) (w' : World) : Prop :=
  ∃ v', e = .returned v' ∧ w'.ownsRow base 59 7 v' (xs.length + 1) ((insE xs i y).flatMap c7) ∧ w.grownBy w' v.ownBlock
/-- At the end. -/
theorem insert_end (v : Value) (xs : List Ev) (y : Ev) (w : World) (base vb : Nat) (hr : w.ownsRow base 59 7 v xs.length (xs.flatMap c7)) (hl : xs.length ≤ 1000000) (hb : base ≤ w.heap.size) (hy : y.kv.oneCell' = true)
    (hv : w.heap[vb]? = some (.cells (c7 y).toArray 59)) :
    Calls Try.prog 51 #[v, .int .i64 (xs.length : Int), .slice (some ⟨vb, 0, none⟩) 1 1] w (InPost w base v xs xs.length y) := by
  obtain ⟨a, cap, rfl⟩ := row_form hr
  obtain ⟨i0, hinf, hz0, hz1, hz2⟩ := info_parts infoEn
  have hnews : ∀ j u, (c7 y)[j]? = some u → w.cell? ((⟨vb, 0, none⟩ : Addr).add j) = some u := by
    intro j u hj
    have ea : (⟨vb, 0, none⟩ : Addr).add j = ⟨vb, j, none⟩ := by simp [Addr.add]; omega
    rw [ea, Go.Joins.cell_of_block hv]
    simpa using hj
  obtain ⟨v6, w6, hrun, hown6, hg6, _⟩ := run_append_own (P := Try.prog) w base 25 25 59 i0 _ 7 72 Try.underlying25 hinf hz0 hz1 hz2 rfl (by decide) (.slice a xs.length cap) xs.length (xs.flatMap c7) hr ⟨vb, 0, none⟩ 1 1 (c7 y) rfl hnews (one7 y hy) (by unfold maxLen; omega) (by omega) hb
  have HEnd : Hid (InPost w base (.slice a xs.length cap) xs xs.length y (.returned v6) w6) := ⟨v6, rfl, by rw [insE_flat, List.take_of_length_le (by rw [flat7_len]; omega), List.drop_of_length_le (by rw [flat7_len]; omega)]; simpa using hown6, hg6⟩
  have hsl : ∀ W, (Instr.slice 25 (.slice a xs.length cap) (some (.int .i64 (xs.length : Int))) none none).run Try.prog W = .ok (sliced a xs.length xs.length cap 7) W := fun W => esl_from a xs.length cap xs.length (Nat.le_refl _) W
  obtain ⟨sv, Hsv⟩ := hid_ex (sliced a xs.length xs.length cap 7)
  rw [← Hsv.out] at hsl
  clear hr hnews hown6 hg6 hv Hsv
  obtain ⟨n, Hn⟩ := hid_ex xs.length
  rw [← Hn.out] at hrun hsl HEnd hl ⊢
  clear Hn
  go_enter Try.func51, Try.ntmps51
  go_wp2_with (at_builtin; refine wpList_app_run rfl _ _ _ _ rfl rfl _ _ _ rfl rfl hrun ?_)
  go_ret
  exact HEnd.out
end Go.Proofs.Ytbadjigfcncfcaa

/- The contract of slices.Insert of one entry, where what stands behind is moved. -/
namespace Go.Proofs.Ytbadjigfcncfcaa
open Go.RowKit

theorem rows_shift {Z F c : List Value} {i n : Nat} (hF : F.length = n * 7) (hc : c.length = 7) (hi : i ≤ n) (hZ : (n + 1) * 7 ≤ Z.length) (hp : Z.take (n * 7) = F) :
    let r1 := Z.take ((i + 1) * 7) ++ F.drop (i * 7) ++ Z.drop ((i + 1) * 7 + (F.drop (i * 7)).length)
    let r2 := r1.take (i * 7) ++ c ++ r1.drop (i * 7 + c.length)
    r1.length = Z.length ∧ r2.length = Z.length ∧ r2.take ((n + 1) * 7) = F.take (i * 7) ++ (c ++ F.drop (i * 7)) := by
  intro r1 r2
  have l1 : r1.length = Z.length := by simp [r1]; omega
  have l2 : r2.length = Z.length := by simp only [r2, List.length_append, List.length_take, List.length_drop, l1, hc]; omega
  refine ⟨l1, l2, ?_⟩
  have e1 : r1.take (i * 7) = F.take (i * 7) := by
    simp only [r1]
    rw [List.append_assoc, List.take_append_of_le_length (by simp; omega), List.take_take, Nat.min_eq_left (by omega), ← hp, List.take_take, Nat.min_eq_left (by omega)]
  have e2 : r1.drop (i * 7 + c.length) = F.drop (i * 7) ++ Z.drop ((i + 1) * 7 + (F.drop (i * 7)).length) := by
    simp only [r1]
    rw [hc, List.append_assoc, List.drop_append_of_le_length (by simp; omega), List.drop_of_length_le (by simp; omega), List.nil_append]
  simp only [r2]
  rw [e1, e2, List.append_assoc, ← List.append_assoc c, ← List.append_assoc, List.take_append_of_le_length (by simp; omega), List.take_of_length_le (by simp; omega)]
theorem rows_grow {Z F c : List Value} {i n : Nat} (hF : F.length = n * 7) (hc : c.length = 7) (hi : i ≤ n) (hZ : (n + 1) * 7 ≤ Z.length) (hp : Z.take (i * 7) = F.take (i * 7)) :
    let r2 := Z.take (i * 7) ++ c ++ Z.drop (i * 7 + c.length)
    let r3 := r2.take ((i + 1) * 7) ++ F.drop (i * 7) ++ r2.drop ((i + 1) * 7 + (F.drop (i * 7)).length)
    r2.length = Z.length ∧ r3.length = Z.length ∧ r3.take ((n + 1) * 7) = F.take (i * 7) ++ (c ++ F.drop (i * 7)) := by
  intro r2 r3
  have l2 : r2.length = Z.length := by simp only [r2, List.length_append, List.length_take, List.length_drop, hc]; omega
  have l3 : r3.length = Z.length := by simp only [r3, List.length_append, List.length_take, List.length_drop, l2]; omega
  refine ⟨l2, l3, ?_⟩
  have e1 : r2.take ((i + 1) * 7) = F.take (i * 7) ++ c := by
    simp only [r2]
    rw [List.take_append_of_le_length (by simp; omega), List.take_of_length_le (by simp; omega), hp]
  simp only [r3]
  rw [e1, List.take_append_of_le_length (by simp; omega), List.take_of_length_le (by simp; omega), List.append_assoc]
theorem ovl_any (w : World) (vb g o lb cb : Nat) (cv cg : Array Value) (hne : vb ≠ g) (hv : w.heap[vb]? = some (.cells cv 59)) (hg : w.heap[g]? = some (.cells cg 59)) (hsz : cg.size ≠ 0) :
    (callFunc 70 #[.slice (some ⟨vb, 0, none⟩) 1 1, .slice (some ⟨g, o, none⟩) lb cb]).run Try.prog w = .ok (.value (.bool false)) w := by
  rw [run_callFunc_extern Try.func70 (by kernel_rfl) (by kernel_rfl) (by kernel_rfl) (e := Extern.SlicesOverlaps.overlaps #[25, 25] #[4]) (by kernel_rfl),
    Lib.run_overlaps_apart w 25 4 59 Try.underlying25 7 sizeE ⟨vb, 0, none⟩ ⟨g, o, none⟩ 1 1 lb cb hne 59 59 cv.size cg.size (by simp [World.shape?, hv]) (by simp [World.shape?, hg]) hsz (by simp [World.frozen?, hv]) (by simp [World.frozen?, hv])]
  rfl
theorem infoE7 : (Try.prog.info? 59).map (·.size) = some 7 := by
  obtain ⟨i0, hinf, hz0, hz1, hz2⟩ := info_parts infoEn
  rw [hinf]; simp [hz1]
theorem one_flat7 {xs : List Ev} (h : ∀ x ∈ xs, x.kv.oneCell' = true) : ∀ u ∈ xs.flatMap c7, u.oneCell' = true := by
  intro u hu
  obtain ⟨x, hx, hux⟩ := List.mem_flatMap.1 hu
  exact one7 x (h x hx) u hux
set_option maxRecDepth 100000 in
set_option maxHeartbeats 2000000 in
theorem insert_shift (g cap : Nat) (xs : List Ev) (i : Nat) (y : Ev) (w : World) (base vb : Nat) (hr : w.ownsRow base 59 7 (.slice (some ⟨g, 0, none⟩) xs.length cap) xs.length (xs.flatMap c7)) (hl : xs.length ≤ 1000000) (hi : i < xs.length) (hroom : xs.length + 1 ≤ cap) (hne : vb ≠ g)
    (hy : ∀ x ∈ xs, x.kv.oneCell' = true) (hyy : y.kv.oneCell' = true) (hv : w.heap[vb]? = some (.cells (c7 y).toArray 59)) :
    Calls Try.prog 51 #[.slice (some ⟨g, 0, none⟩) xs.length cap, .int .i64 (i : Int), .slice (some ⟨vb, 0, none⟩) 1 1] w (InPost w base (.slice (some ⟨g, 0, none⟩) xs.length cap) xs i y) := by
  obtain ⟨cur, hcur, hbg, hcm, hcs, htk⟩ : ∃ cur : Array Value, w.heap[g]? = some (.cells cur 59) ∧ base ≤ g ∧ cap ≤ maxLen ∧ cur.size = cap * 7 ∧ cur.toList.take (xs.length * 7) = xs.flatMap c7 := by
    rcases hr.2 with ⟨q, _⟩ | ⟨g', cap', cur, q, hb, hw, hc, hx, hs, ht⟩
    · simp at q
    · simp at q
      obtain ⟨rfl, rfl⟩ := q
      exact ⟨cur, hw, hb, hx, hs, ht⟩
  have hFl := flat7_len xs
  obtain ⟨l1, l2, hrow⟩ := rows_shift (Z := cur.toList) (F := xs.flatMap c7) (c := c7 y) (i := i) (n := xs.length) hFl rfl (by omega) (by simp; omega) htk
  have hdl : ((xs.flatMap c7).drop (i * 7)).length = (xs.length - i) * 7 := by rw [List.length_drop, hFl]; omega
  have hcp1 := run_copy_rowK w.drew 25 25 3 59 7 g ((i + 1) * 7) (xs.length + 1 - (i + 1)) (cap - (i + 1)) ⟨g, i * 7, none⟩ (xs.length + 1 - i) (cap - i) (xs.length - i) cur 59 ((xs.flatMap c7).drop (i * 7)) Try.underlying25 infoE7 hcur (by show min _ _ = _; omega) hdl
    (fun j u hj => by
      rw [List.getElem?_drop] at hj
      have hlt : i * 7 + j < xs.length * 7 := by
        rw [← hFl]
        exact (List.getElem?_eq_some_iff.1 hj).1
      have ea : (⟨g, i * 7, none⟩ : Addr).add j = ⟨g, i * 7 + j, none⟩ := by simp [Addr.add]
      rw [ea, Go.Joins.cell_of_block (w := w.drew) hcur]
      rw [← htk, List.getElem?_take, if_pos hlt] at hj
      simpa using hj) (by rw [hdl, hcs]; omega) (fun u hu => one_flat7 hy u (List.mem_of_mem_drop hu))
  obtain ⟨r1, Hr1⟩ := hid_ex (cur.toList.take ((i + 1) * 7) ++ (xs.flatMap c7).drop (i * 7) ++ cur.toList.drop ((i + 1) * 7 + ((xs.flatMap c7).drop (i * 7)).length))
  rw [← Hr1.out] at hcp1 l1 hrow l2
  obtain ⟨w1, HW1⟩ := hid_ex (w.drew.setRow g r1.toArray)
  have hheap1 : w1.heap[g]? = some (.cells r1.toArray 59) := by rw [HW1.out]; exact setRow_heap w.drew g cur _ _ _ hcur
  have hv1 : w1.heap[vb]? = some (.cells (c7 y).toArray 59) := by rw [HW1.out, setRow_other _ _ _ _ hne]; exact hv
  have hg1 : w.grownBy w1 (some g) := by rw [HW1.out]; exact grown_setRow (grown_drew (grown_refl w _)) (.inl rfl) _
  rw [← HW1.out] at hcp1
  have hcp2 := run_copy_rowK w1 25 25 3 59 7 g (i * 7) (xs.length + 1 - i) (cap - i) ⟨vb, 0, none⟩ 1 1 1 r1.toArray 59 (c7 y) Try.underlying25 infoE7 hheap1 (by show min _ _ = _; omega) rfl
    (fun j u hj => by
      have ea : (⟨vb, 0, none⟩ : Addr).add j = ⟨vb, j, none⟩ := by simp [Addr.add]; omega
      rw [ea, Go.Joins.cell_of_block hv1]
      simpa using hj) (by rw [c7_len]; simp [l1]; omega) (one7 y hyy)
  rw [List.toList_toArray] at hcp2
  obtain ⟨r2, Hr2⟩ := hid_ex (r1.take (i * 7) ++ c7 y ++ r1.drop (i * 7 + (c7 y).length))
  rw [← Hr2.out] at hcp2
  have hl2 : r2.length = cap * 7 := by rw [Hr2.out, l2]; simp [hcs]
  have hrow2 : r2.take ((xs.length + 1) * 7) = (insE xs i y).flatMap c7 := by rw [Hr2.out, insE_flat]; exact hrow
  obtain ⟨w2, HW2⟩ := hid_ex (w1.setRow g r2.toArray)
  have hheap2 : w2.heap[g]? = some (.cells r2.toArray 59) := by rw [HW2.out]; exact setRow_heap w1 g _ _ _ _ hheap1
  have hg2 : w.grownBy w2 (some g) := by rw [HW2.out]; exact grown_setRow hg1 (.inl rfl) _
  rw [← HW2.out] at hcp2
  have HEnd : Hid (InPost w base (.slice (some ⟨g, 0, none⟩) xs.length cap) xs i y (.returned (.slice (some ⟨g, 0, none⟩) (xs.length + 1) cap)) w2) := ⟨_, rfl, ⟨by rw [flat7_len, insE_len (by omega)], .inr ⟨g, cap, r2.toArray, rfl, hbg, hheap2, hroom, hcm, by simp [hl2], by simpa using hrow2⟩⟩, hg2⟩
  have hov := fun lb cb => ovl_any w vb g ((i + 1) * 7) lb cb _ cur hne hv hcur (by omega)
  unfold maxLen at hcm
  clear hr hcur hcs htk hFl l1 l2 hrow hdl Hr1 HW1 hheap1 hv1 hg1 Hr2 hl2 hrow2 HW2 hheap2 hg2 hy hyy hv hbg
  obtain ⟨n, Hn⟩ := hid_ex xs.length
  rw [← Hn.out] at hcp1 hcp2 HEnd hl hi hroom ⊢
  clear Hn
  have hs1 : ∀ W, (Instr.slice 25 (.slice (some ⟨g, 0, none⟩) n cap) (some (.int .i64 (i : Int))) none none).run Try.prog W = .ok (.slice (some ⟨g, i * 7, none⟩) (n - i) (cap - i)) W := fun W => by rw [esl_from _ _ _ _ (by omega), sliced_some _ _ _ _ (by omega)]
  have hs2 : ∀ W, (Instr.slice 25 (.slice (some ⟨g, 0, none⟩) n cap) none (some (.int .i64 ((n : Int) + 1))) none).run Try.prog W = .ok (.slice (some ⟨g, 0, none⟩) (n + 1) cap) W := fun W => by
    have := esl_upto (some ⟨g, 0, none⟩) n cap (n + 1) hroom W
    rw [sliced_some _ _ _ _ (by omega)] at this
    simpa using this
  have hs3 : ∀ W, (Instr.slice 25 (.slice (some ⟨g, 0, none⟩) (n + 1) cap) (some (.int .i64 ((i : Int) + 1))) none none).run Try.prog W = .ok (.slice (some ⟨g, (i + 1) * 7, none⟩) (n + 1 - (i + 1)) (cap - (i + 1))) W := fun W => by
    have := esl_from (some ⟨g, 0, none⟩) (n + 1) cap (i + 1) (by omega) W
    rw [sliced_some _ _ _ _ (by omega)] at this
    exact this
  have hs4 : ∀ W, (Instr.slice 25 (.slice (some ⟨g, 0, none⟩) (n + 1) cap) (some (.int .i64 (i : Int))) none none).run Try.prog W = .ok (.slice (some ⟨g, i * 7, none⟩) (n + 1 - i) (cap - i)) W := fun W => by rw [esl_from _ _ _ _ (by omega), sliced_some _ _ _ _ (by omega)]
  obtain ⟨d1, Hd1⟩ := hid_ex (n + 1 - (i + 1))
  obtain ⟨d2, Hd2⟩ := hid_ex (n + 1 - i)
  obtain ⟨e1, He1⟩ := hid_ex (cap - (i + 1))
  obtain ⟨e2, He2⟩ := hid_ex (cap - i)
  obtain ⟨d3, Hd3⟩ := hid_ex (n - i)
  obtain ⟨o1, Ho1⟩ := hid_ex ((i + 1) * 7)
  obtain ⟨o2, Ho2⟩ := hid_ex (i * 7)
  rw [← Hd3.out, ← He2.out, ← Ho2.out] at hs1
  rw [← Hd1.out, ← He1.out, ← Ho1.out] at hs3
  rw [← Hd2.out, ← He2.out, ← Ho2.out] at hs4
  rw [← Hd1.out, ← Hd2.out, ← He1.out, ← He2.out, ← Ho1.out, ← Ho2.out, ← Hd3.out] at hcp1
  rw [← Hd2.out, ← He2.out, ← Ho2.out] at hcp2
  rw [← Ho1.out] at hov
  clear Hd1 Hd2 He1 He2 Hd3 Ho1 Ho2
  go_enter Try.func51, Try.ntmps51
  go_wp2_with (simp only [hov])
  refine wp_region_noPanic ?_
  refine wp_region_held_drew (S := (fun _ => True)) (by kernel_rfl) ?_ (fun hHeld => ?_)
  · trivial
  refine wpAnyH_take (i := 0) (v := .slice (some ⟨g, 0, none⟩) (n + 1) cap) rfl (by kernel_rfl) (by kernel_rfl) (by kernel_rfl) (fun _ _ _ h => h) (Or.inl ⟨by rfl, ?_⟩) (by assumption) ?_
  · (intro w1 hSw; (try dsimp only at hSw); go_simp)
  simp only [List.getElem_toArray, List.getElem_cons_zero, Act.put, List.setIfInBounds_toArray, List.set_cons_zero, List.set_cons_succ]
  refine wpAnyH_take (i := 1) (v := .int .i64 (i : Int)) rfl (by kernel_rfl) (by kernel_rfl) (by kernel_rfl) (fun _ _ _ h => h) (Or.inl ⟨by rfl, ?_⟩) (by assumption) ?_
  · (intro w1 hSw; (try dsimp only at hSw); go_simp)
  simp only [List.getElem_toArray, List.getElem_cons_succ, List.getElem_cons_zero, Act.put, List.setIfInBounds_toArray, List.set_cons_zero, List.set_cons_succ]
  refine wpAnyH_take (i := 2) (v := .int .i64 1) rfl (by kernel_rfl) (by kernel_rfl) (by kernel_rfl) (fun _ _ _ h => h) (Or.inl ⟨by rfl, ?_⟩) (by assumption) ?_
  · (intro w1 hSw; (try dsimp only at hSw); go_simp)
  simp only [List.getElem_toArray, List.getElem_cons_succ, List.getElem_cons_zero, Act.put, List.setIfInBounds_toArray, List.set_cons_zero, List.set_cons_succ]
  refine wpAnyH_take (i := 3) (v := .int .i64 ((i : Int) + 1)) rfl (by kernel_rfl) (by kernel_rfl) (by kernel_rfl) (fun _ _ _ h => h) (Or.inl ⟨by rfl, ?_⟩) (by assumption) ?_
  · (intro w1 hSw; (try dsimp only at hSw); go_simp; (rw [IntKind.wrap_i64]; omega))
  simp only [List.getElem_toArray, List.getElem_cons_succ, List.getElem_cons_zero, Act.put, List.setIfInBounds_toArray, List.set_cons_zero, List.set_cons_succ]
  refine wpAnyH_take (i := 4) (v := .slice (some ⟨g, o1, none⟩) d1 e1) rfl (by kernel_rfl) (by kernel_rfl) (by kernel_rfl) (fun _ _ _ h => h) (Or.inl ⟨by rfl, ?_⟩) (by assumption) ?_
  · (intro w1 hSw; (try dsimp only at hSw); go_simp)
  simp only [List.getElem_toArray, List.getElem_cons_succ, List.getElem_cons_zero, Act.put, List.setIfInBounds_toArray, List.set_cons_zero, List.set_cons_succ]
  refine wpAnyH_take (i := 5) (v := .slice (some ⟨g, 0, none⟩) (n + 1) cap) rfl (by kernel_rfl) (by kernel_rfl) (by kernel_rfl) (fun _ _ _ h => h) (Or.inl ⟨by rfl, ?_⟩) (by assumption) ?_
  · (intro w1 hSw; (try dsimp only at hSw); go_simp)
  simp only [List.getElem_toArray, List.getElem_cons_succ, List.getElem_cons_zero, Act.put, List.setIfInBounds_toArray, List.set_cons_zero, List.set_cons_succ]
  refine wpAnyH_take (i := 6) (v := .int .i64 (i : Int)) rfl (by kernel_rfl) (by kernel_rfl) (by kernel_rfl) (fun _ _ _ h => h) (Or.inl ⟨by rfl, ?_⟩) (by assumption) ?_
  · (intro w1 hSw; (try dsimp only at hSw); go_simp)
  simp only [List.getElem_toArray, List.getElem_cons_succ, List.getElem_cons_zero, Act.put, List.setIfInBounds_toArray, List.set_cons_zero, List.set_cons_succ]
  refine wpAnyH_take (i := 7) (v := .slice (some ⟨g, o2, none⟩) d2 e2) rfl (by kernel_rfl) (by kernel_rfl) (by kernel_rfl) (fun _ _ _ h => h) (Or.inl ⟨by rfl, ?_⟩) (by assumption) ?_
  · (intro w1 hSw; (try dsimp only at hSw); go_simp)
  simp only [List.getElem_toArray, List.getElem_cons_succ, List.getElem_cons_zero, Act.put, List.setIfInBounds_toArray, List.set_cons_zero, List.set_cons_succ]
  refine wpAnyH_ready (rs := [8]) (by kernel_rfl) (by simp) ?_
  refine AllReadyH.cons (o := _) rfl (fun K hK => ?_) AllReadyH.nil
  refine wp_copy_run _ _ _ _ _ rfl rfl _ _ _ rfl rfl hcp1 ?_
  refine hK.out _ _ ?_ (fun hHeld => ?_)
  · trivial
  clear hK K
  clear hHeld
  refine wpAnyH_done (by kernel_rfl) ?_ _
  refine NoPanic.normal ?_
  go_wp2_with (at_builtin; refine wpList_copy_run rfl _ _ _ _ _ rfl rfl _ _ _ rfl rfl hcp2 ?_)
  go_ret
  exact HEnd.out
theorem zero_cells (k : Nat) : (Builtin.zeroCells (Value.agg #[.slice none 0 0, .int .u64 0, .bool false, .int .i64 0, .int .u64 0, .int .i64 0, .int .i64 0]).cells k).size = k * 7 := by
  simp [Builtin.zeroCells, Value.cells]
set_option maxRecDepth 100000 in
set_option maxHeartbeats 2000000 in
theorem insert_grow (g cap : Nat) (xs : List Ev) (i : Nat) (y : Ev) (w : World) (base vb : Nat) (hr : w.ownsRow base 59 7 (.slice (some ⟨g, 0, none⟩) xs.length cap) xs.length (xs.flatMap c7)) (hl : xs.length ≤ 1000000) (hi : i < xs.length) (hroom : cap < xs.length + 1) (hbs : base ≤ w.heap.size)
    (hy : ∀ x ∈ xs, x.kv.oneCell' = true) (hyy : y.kv.oneCell' = true) (hv : w.heap[vb]? = some (.cells (c7 y).toArray 59)) :
    Calls Try.prog 51 #[.slice (some ⟨g, 0, none⟩) xs.length cap, .int .i64 (i : Int), .slice (some ⟨vb, 0, none⟩) 1 1] w (InPost w base (.slice (some ⟨g, 0, none⟩) xs.length cap) xs i y) := by
  obtain ⟨cur, hcur, hbg, hcap, hcm, hcs, htk⟩ : ∃ cur : Array Value, w.heap[g]? = some (.cells cur 59) ∧ base ≤ g ∧ xs.length ≤ cap ∧ cap ≤ maxLen ∧ cur.size = cap * 7 ∧ cur.toList.take (xs.length * 7) = xs.flatMap c7 := by
    rcases hr.2 with ⟨q, _⟩ | ⟨g', cap', cur, q, hb, hw, hc, hx, hs, ht⟩
    · simp at q
    · simp at q
      obtain ⟨rfl, rfl⟩ := q
      exact ⟨cur, hw, hb, hc, hx, hs, ht⟩
  obtain ⟨i0, hinf, hz0, hz1, hz2⟩ := info_parts infoEn
  have hFl := flat7_len xs
  have hgl : g < w.heap.size := (Array.getElem?_eq_some_iff.1 hcur).1
  have hvl : vb < w.heap.size := (Array.getElem?_eq_some_iff.1 hv).1
  have hsrc : ∀ (W : World), W.heap[g]? = w.heap[g]? → ∀ (o : Nat) j u, ((xs.flatMap c7).drop o)[j]? = some u → W.cell? ((⟨g, o, none⟩ : Addr).add j) = some u := fun W hW o j u hj => by
    rw [List.getElem?_drop] at hj
    have hlt : o + j < xs.length * 7 := by
      rw [← hFl]
      exact (List.getElem?_eq_some_iff.1 hj).1
    have ea : (⟨g, o, none⟩ : Addr).add j = ⟨g, o + j, none⟩ := by simp [Addr.add]
    rw [ea, Go.Joins.cell_of_block (hW.trans hcur)]
    rw [← htk, List.getElem?_take, if_pos hlt] at hj
    simpa using hj
  have hold : (Builtin.firstCells i0.size i (.slice (some ⟨g, 0, none⟩) i cap)).run Try.prog w.drew = .ok ((xs.flatMap c7).take (i * 7)).toArray w.drew := by
    rw [hz1]
    refine run_firstCells_some w.drew 7 i ⟨g, 0, none⟩ i cap _ (by rw [List.length_take, hFl]; omega) (fun j u hj => ?_)
    rw [List.getElem?_take] at hj
    split at hj
    · exact hsrc w.drew rfl 0 j u (by simpa using hj)
    · cases hj
  have hrz := Lib.run_append_grow_zeros w 25 3 25 59 i0 _ .i64 .i64 Try.underlying25 Try.underlying3 hinf hz0 (some ⟨g, 0, none⟩) i cap _ hold (xs.length + 1 - i) (by omega) (by rw [hz1]; omega) (by omega) (by omega) (by rw [hz2]; omega) (by rw [hz2, show i + (xs.length + 1 - i) = xs.length + 1 by omega]; exact growslice_fits hroom (by omega))
  rw [show i + (xs.length + 1 - i) = xs.length + 1 by omega] at hrz
  have hGn : xs.length + 1 ≤ grownCap w (xs.length + 1) cap 59 := grownCap_ge w _ _ _
  have hG63 : grownCap w (xs.length + 1) cap 59 ≤ maxLen := grownCap_le_maxLen w _ _ _ (by unfold maxLen; omega)
  obtain ⟨G, HG⟩ := hid_ex (grownCap w (xs.length + 1) cap 59)
  rw [← HG.out] at hrz hGn hG63
  obtain ⟨Z, HZ⟩ : ∃ Z : List Value, Hid (Z.toArray = ((xs.flatMap c7).take (i * 7)).toArray ++ Builtin.zeroCells (Value.agg #[.slice none 0 0, .int .u64 0, .bool false, .int .i64 0, .int .u64 0, .int .i64 0, .int .i64 0]).cells (xs.length + 1 - i) ++ Builtin.zeroCells (Value.agg #[.slice none 0 0, .int .u64 0, .bool false, .int .i64 0, .int .u64 0, .int .i64 0, .int .i64 0]).cells (G - (xs.length + 1))) := ⟨_, Array.toArray_toList⟩
  rw [← HZ.out] at hrz
  have hZl : Z.length = G * 7 := by
    have := congrArg Array.size HZ.out
    rw [Array.size_append, Array.size_append, zero_cells, zero_cells] at this
    simp only [List.size_toArray, List.length_take, hFl] at this
    omega
  have hZt : Z.take (i * 7) = (xs.flatMap c7).take (i * 7) := by
    have := congrArg Array.toList HZ.out
    simp only [Array.toList_append] at this
    rw [this, List.append_assoc, List.take_append_of_le_length (by rw [List.length_take, hFl]; omega), List.take_take, Nat.min_self]
  obtain ⟨l2, l3, hrow⟩ := rows_grow (Z := Z) (F := xs.flatMap c7) (c := c7 y) (i := i) (n := xs.length) hFl rfl (by omega) (by omega) hZt
  obtain ⟨h, Hh⟩ := hid_ex w.heap.size
  rw [← Hh.out] at hrz
  obtain ⟨w1, HW1⟩ := hid_ex (w.drew.alloc (.cells Z.toArray 59))
  rw [← HW1.out] at hrz
  have hheap1 : w1.heap[h]? = some (.cells Z.toArray 59) := by rw [HW1.out, Hh.out]; exact heap_alloc_new _ _
  have hk1 : ∀ k, k < w.heap.size → w1.heap[k]? = w.heap[k]? := fun k hk => by rw [HW1.out]; exact Below.heap_alloc w.drew _ _ hk
  have hg1 : w.grownBy w1 (some g) := by rw [HW1.out]; exact ⟨rfl, rfl, rfl, by simp, fun k hk _ => Below.heap_alloc w.drew _ _ hk⟩
  have hcp2 := run_copy_rowK w1 25 25 3 59 7 h (i * 7) (xs.length + 1 - i) (G - i) ⟨vb, 0, none⟩ 1 1 1 Z.toArray 59 (c7 y) Try.underlying25 infoE7 hheap1 (by show min _ _ = _; omega) rfl
    (fun j u hj => by
      have ea : (⟨vb, 0, none⟩ : Addr).add j = ⟨vb, j, none⟩ := by simp [Addr.add]; omega
      rw [ea, Go.Joins.cell_of_block ((hk1 vb hvl).trans hv)]
      simpa using hj) (by rw [c7_len]; simp [hZl]; omega) (one7 y hyy)
  rw [List.toList_toArray] at hcp2
  obtain ⟨r2, Hr2⟩ := hid_ex (Z.take (i * 7) ++ c7 y ++ Z.drop (i * 7 + (c7 y).length))
  rw [← Hr2.out] at hcp2 l2 l3 hrow
  obtain ⟨w2, HW2⟩ := hid_ex (w1.setRow h r2.toArray)
  have hheap2 : w2.heap[h]? = some (.cells r2.toArray 59) := by rw [HW2.out]; exact setRow_heap w1 h _ _ _ _ hheap1
  have hg2 : w.grownBy w2 (some g) := by rw [HW2.out]; exact grown_setRow hg1 (.inr (by rw [Hh.out]; exact Nat.le_refl _)) _
  have hk2 : w2.heap[g]? = w.heap[g]? := by rw [HW2.out, setRow_other _ _ _ _ (by rw [Hh.out]; omega)]; exact hk1 g hgl
  rw [← HW2.out] at hcp2
  have hdl : ((xs.flatMap c7).drop (i * 7)).length = (xs.length - i) * 7 := by rw [List.length_drop, hFl]; omega
  have hcp3 := run_copy_rowK w2.drew 25 25 3 59 7 h ((i + 1) * 7) (xs.length + 1 - (i + 1)) (G - (i + 1)) ⟨g, i * 7, none⟩ (xs.length - i) (cap - i) (xs.length - i) r2.toArray 59 ((xs.flatMap c7).drop (i * 7)) Try.underlying25 infoE7 hheap2 (by show min _ _ = _; omega) hdl (hsrc w2.drew hk2 (i * 7)) (by rw [hdl]; simp [l2]; omega) (fun u hu => one_flat7 hy u (List.mem_of_mem_drop hu))
  rw [List.toList_toArray] at hcp3
  obtain ⟨r3, Hr3⟩ := hid_ex (r2.take ((i + 1) * 7) ++ (xs.flatMap c7).drop (i * 7) ++ r2.drop ((i + 1) * 7 + ((xs.flatMap c7).drop (i * 7)).length))
  rw [← Hr3.out] at hcp3 l3 hrow
  obtain ⟨w3, HW3⟩ := hid_ex (w2.drew.setRow h r3.toArray)
  have hheap3 : w3.heap[h]? = some (.cells r3.toArray 59) := by rw [HW3.out]; exact setRow_heap w2.drew h _ _ _ _ hheap2
  have hg3 : w.grownBy w3 (some g) := by rw [HW3.out]; exact grown_setRow (grown_drew hg2) (.inr (by rw [Hh.out]; exact Nat.le_refl _)) _
  rw [← HW3.out] at hcp3
  have HEnd : Hid (InPost w base (.slice (some ⟨g, 0, none⟩) xs.length cap) xs i y (.returned (.slice (some ⟨h, 0, none⟩) (xs.length + 1) G)) w3) := ⟨_, rfl, ⟨by rw [flat7_len, insE_len (by omega)], .inr ⟨h, G, r3.toArray, rfl, by rw [Hh.out]; exact hbs, hheap3, hGn, hG63, by simp [l3, hZl], by rw [insE_flat]; simpa using hrow⟩⟩, hg3⟩
  unfold maxLen at hcm hG63
  clear hr hcur hcs htk hFl l2 l3 hrow hdl HW1 hheap1 hg1 Hr2 HW2 hheap2 hg2 hk2 hk1 Hr3 HW3 hheap3 hg3 hy hyy hv hbg hZl hZt HZ hold hsrc hinf hz0 hz1 hz2 HG Hh
  obtain ⟨n, Hn⟩ := hid_ex xs.length
  rw [← Hn.out] at hcp2 hcp3 HEnd hl hi hroom hrz hGn hcap ⊢
  clear Hn
  have hkk : ((n + 1 - i : Nat) : Int) = (n : Int) + 1 - (i : Int) := by omega
  rw [hkk] at hrz
  clear hkk
  have hs1 : ∀ W, (Instr.slice 25 (.slice (some ⟨g, 0, none⟩) n cap) (some (.int .i64 (i : Int))) none none).run Try.prog W = .ok (.slice (some ⟨g, i * 7, none⟩) (n - i) (cap - i)) W := fun W => by rw [esl_from _ _ _ _ (by omega), sliced_some _ _ _ _ (by omega)]
  have hs2 : ∀ W, (Instr.slice 25 (.slice (some ⟨g, 0, none⟩) n cap) none (some (.int .i64 (i : Int))) none).run Try.prog W = .ok (.slice (some ⟨g, 0, none⟩) i cap) W := fun W => by
    have := esl_upto (some ⟨g, 0, none⟩) n cap i (by omega) W
    rw [sliced_some _ _ _ _ (by omega)] at this
    simpa using this
  have hs3 : ∀ W, (Instr.slice 25 (.slice (some ⟨h, 0, none⟩) (n + 1) G) (some (.int .i64 ((i : Int) + 1))) none none).run Try.prog W = .ok (.slice (some ⟨h, (i + 1) * 7, none⟩) (n + 1 - (i + 1)) (G - (i + 1))) W := fun W => by
    have := esl_from (some ⟨h, 0, none⟩) (n + 1) G (i + 1) (by omega) W
    rw [sliced_some _ _ _ _ (by omega)] at this
    exact this
  have hs4 : ∀ W, (Instr.slice 25 (.slice (some ⟨h, 0, none⟩) (n + 1) G) (some (.int .i64 (i : Int))) none none).run Try.prog W = .ok (.slice (some ⟨h, i * 7, none⟩) (n + 1 - i) (G - i)) W := fun W => by rw [esl_from _ _ _ _ (by omega), sliced_some _ _ _ _ (by omega)]
  obtain ⟨d1, Hd1⟩ := hid_ex (n + 1 - (i + 1))
  obtain ⟨d2, Hd2⟩ := hid_ex (n + 1 - i)
  obtain ⟨e1, He1⟩ := hid_ex (G - (i + 1))
  obtain ⟨e2, He2⟩ := hid_ex (G - i)
  obtain ⟨e3, He3⟩ := hid_ex (cap - i)
  obtain ⟨d3, Hd3⟩ := hid_ex (n - i)
  obtain ⟨o1, Ho1⟩ := hid_ex ((i + 1) * 7)
  obtain ⟨o2, Ho2⟩ := hid_ex (i * 7)
  rw [← Hd3.out, ← He3.out, ← Ho2.out] at hs1
  rw [← Hd1.out, ← He1.out, ← Ho1.out] at hs3
  rw [← Hd2.out, ← He2.out, ← Ho2.out] at hs4
  rw [← Hd2.out, ← He2.out, ← Ho2.out] at hcp2
  rw [← Hd1.out, ← Hd3.out, ← He1.out, ← He3.out, ← Ho1.out, ← Ho2.out] at hcp3
  clear Hd1 Hd2 He1 He2 He3 Hd3 Ho1 Ho2
  go_enter Try.func51, Try.ntmps51
  go_wp2_with (at_builtin; first | refine wpList_appZ_run rfl _ _ _ _ _ rfl rfl _ _ _ rfl rfl hrz ?_ | refine wpList_copy_run rfl _ _ _ _ _ rfl rfl _ _ _ rfl rfl hcp2 ?_)
  refine wp_region_noPanic ?_
  refine wp_region_held_drew (S := (fun _ => True)) (by kernel_rfl) ?_ (fun hHeld => ?_)
  · trivial
  refine wpAnyH_take (i := 0) (v := .slice (some ⟨h, 0, none⟩) (n + 1) G) rfl (by kernel_rfl) (by kernel_rfl) (by kernel_rfl) (fun _ _ _ h => h) (Or.inl ⟨by rfl, ?_⟩) (by assumption) ?_
  · (intro w1 hSw; (try dsimp only at hSw); go_simp)
  simp only [List.getElem_toArray, List.getElem_cons_zero, Act.put, List.setIfInBounds_toArray, List.set_cons_zero, List.set_cons_succ]
  refine wpAnyH_take (i := 1) (v := .int .i64 (i : Int)) rfl (by kernel_rfl) (by kernel_rfl) (by kernel_rfl) (fun _ _ _ h => h) (Or.inl ⟨by rfl, ?_⟩) (by assumption) ?_
  · (intro w1 hSw; (try dsimp only at hSw); go_simp)
  simp only [List.getElem_toArray, List.getElem_cons_succ, List.getElem_cons_zero, Act.put, List.setIfInBounds_toArray, List.set_cons_zero, List.set_cons_succ]
  refine wpAnyH_take (i := 2) (v := .int .i64 1) rfl (by kernel_rfl) (by kernel_rfl) (by kernel_rfl) (fun _ _ _ h => h) (Or.inl ⟨by rfl, ?_⟩) (by assumption) ?_
  · (intro w1 hSw; (try dsimp only at hSw); go_simp)
  simp only [List.getElem_toArray, List.getElem_cons_succ, List.getElem_cons_zero, Act.put, List.setIfInBounds_toArray, List.set_cons_zero, List.set_cons_succ]
  refine wpAnyH_take (i := 3) (v := .int .i64 ((i : Int) + 1)) rfl (by kernel_rfl) (by kernel_rfl) (by kernel_rfl) (fun _ _ _ h => h) (Or.inl ⟨by rfl, ?_⟩) (by assumption) ?_
  · (intro w1 hSw; (try dsimp only at hSw); go_simp; (rw [IntKind.wrap_i64]; omega))
  simp only [List.getElem_toArray, List.getElem_cons_succ, List.getElem_cons_zero, Act.put, List.setIfInBounds_toArray, List.set_cons_zero, List.set_cons_succ]
  refine wpAnyH_take (i := 4) (v := .slice (some ⟨h, o1, none⟩) d1 e1) rfl (by kernel_rfl) (by kernel_rfl) (by kernel_rfl) (fun _ _ _ h => h) (Or.inl ⟨by rfl, ?_⟩) (by assumption) ?_
  · (intro w1 hSw; (try dsimp only at hSw); go_simp)
  simp only [List.getElem_toArray, List.getElem_cons_succ, List.getElem_cons_zero, Act.put, List.setIfInBounds_toArray, List.set_cons_zero, List.set_cons_succ]
  refine wpAnyH_take (i := 5) (v := .slice (some ⟨g, 0, none⟩) n cap) rfl (by kernel_rfl) (by kernel_rfl) (by kernel_rfl) (fun _ _ _ h => h) (Or.inl ⟨by rfl, ?_⟩) (by assumption) ?_
  · (intro w1 hSw; (try dsimp only at hSw); go_simp)
  simp only [List.getElem_toArray, List.getElem_cons_succ, List.getElem_cons_zero, Act.put, List.setIfInBounds_toArray, List.set_cons_zero, List.set_cons_succ]
  refine wpAnyH_take (i := 6) (v := .int .i64 (i : Int)) rfl (by kernel_rfl) (by kernel_rfl) (by kernel_rfl) (fun _ _ _ h => h) (Or.inl ⟨by rfl, ?_⟩) (by assumption) ?_
  · (intro w1 hSw; (try dsimp only at hSw); go_simp)
  simp only [List.getElem_toArray, List.getElem_cons_succ, List.getElem_cons_zero, Act.put, List.setIfInBounds_toArray, List.set_cons_zero, List.set_cons_succ]
  refine wpAnyH_take (i := 7) (v := .slice (some ⟨g, o2, none⟩) d3 e3) rfl (by kernel_rfl) (by kernel_rfl) (by kernel_rfl) (fun _ _ _ h => h) (Or.inl ⟨by rfl, ?_⟩) (by assumption) ?_
  · (intro w1 hSw; (try dsimp only at hSw); go_simp)
  simp only [List.getElem_toArray, List.getElem_cons_succ, List.getElem_cons_zero, Act.put, List.setIfInBounds_toArray, List.set_cons_zero, List.set_cons_succ]
  refine wpAnyH_ready (rs := [8]) (by kernel_rfl) (by simp) ?_
  refine AllReadyH.cons (o := _) rfl (fun K hK => ?_) AllReadyH.nil
  refine wp_copy_run _ _ _ _ _ rfl rfl _ _ _ rfl rfl hcp3 ?_
  refine hK.out _ _ ?_ (fun hHeld => ?_)
  · trivial
  clear hK K
  clear hHeld
  refine wpAnyH_done (by kernel_rfl) ?_ _
  refine NoPanic.normal ?_
  go_wp2_with fail
  go_ret
  exact HEnd.out
theorem insert_any (v : Value) (xs : List Ev) (i : Nat) (y : Ev) (w : World) (base vb : Nat) (hr : w.ownsRow base 59 7 v xs.length (xs.flatMap c7)) (hl : xs.length ≤ 1000000) (hi : i ≤ xs.length) (hbs : base ≤ w.heap.size) (hne : v.ownBlock ≠ some vb)
    (hy : ∀ x ∈ xs, x.kv.oneCell' = true) (hyy : y.kv.oneCell' = true) (hv : w.heap[vb]? = some (.cells (c7 y).toArray 59)) :
    Calls Try.prog 51 #[v, .int .i64 (i : Int), .slice (some ⟨vb, 0, none⟩) 1 1] w (InPost w base v xs i y) := by
  rcases Nat.lt_or_ge i xs.length with h | h
  · rcases hr.2 with ⟨_, q⟩ | ⟨g, cap, cur, rfl, _, _, hc, _⟩
    · omega
    · rcases Nat.lt_or_ge cap (xs.length + 1) with h2 | h2
      · exact insert_grow g cap xs i y w base vb hr hl h h2 hbs hy hyy hv
      · exact insert_shift g cap xs i y w base vb hr hl h h2 (fun e => hne (by rw [e]; rfl)) hy hyy hv
  · obtain rfl : i = xs.length := by omega
    exact insert_end v xs y w base vb hr hl hbs hyy hv
end Go.Proofs.Ytbadjigfcncfcaa

/- What the loop of fold.folded keeps. -/
namespace Go.Proofs.Ytbadjigfcncfcaa
open Go.RowKit

theorem ins_at {x : En} : ∀ {A B : List En}, (∀ y ∈ A, ltK y.1 x.1) → (∀ y ∈ B, ltK x.1 y.1) → ins x (A ++ B) = A ++ x :: B
  | [], [], _, _ => rfl
  | [], y :: B, _, h => ins_lt (h y (List.mem_cons_self ..))
  | y :: A, B, h, h2 => by
    show ins x (y :: (A ++ B)) = y :: (A ++ x :: B)
    rw [ins_gt (h y (List.mem_cons_self ..)), ins_at (fun z hz => h z (List.mem_cons_of_mem _ hz)) h2]
theorem ins_mid {x l : En} (e : x.1 = l.1) : ∀ {A B : List En}, (∀ y ∈ A, ltK y.1 x.1) → ins x (A ++ l :: B) = A ++ (l.1, mrg x.2 l.2) :: B
  | [], B, _ => ins_eq e
  | y :: A, B, h => by
    show ins x (y :: (A ++ l :: B)) = y :: (A ++ _)
    rw [ins_gt (h y (List.mem_cons_self ..)), ins_mid e (fun z hz => h z (List.mem_cons_of_mem _ hz))]
theorem ItOk.gd {R : Rl} {x : It} (h : ItOk R x) : Gd x.a := ⟨h.c, h.g, fun h2 => absurd h2 h.n⟩
theorem its_gd {R : Rl} {its : List It} (h : ∀ x ∈ its, ItOk R x) : GdE (its.map itE) := fun y hy => by
  obtain ⟨x, hx, rfl⟩ := List.mem_map.1 hy
  exact (h x hx).gd
/-- One more item. -/
theorem foldF_snoc {R : Rl} {wm : Int} {M : List En} {x : En} (hg : GdE M) (hx : Gd x.2) : foldF R wm (M ++ [x]) = match fk R wm x.1 with | none => foldF R wm M | some k => ins (k, x.2) (foldF R wm M) := by
  unfold foldF
  rw [fm_app]
  have e : fm (fk R wm) [x] = match fk R wm x.1 with | none => [] | some k => [(k, x.2)] := by rw [fm_cons]; rfl
  rw [e]
  cases fk R wm x.1 with
  | none => simp
  | some k =>
    have hp : (fm (fk R wm) M ++ [(k, x.2)]).Perm ((k, x.2) :: fm (fk R wm) M) := List.perm_append_comm (l₁ := fm (fk R wm) M) (l₂ := [(k, x.2)])
    show can (fm (fk R wm) M ++ [(k, x.2)]) = ins (k, x.2) (can (fm (fk R wm) M))
    rw [can_perm hp (GdE.app.2 ⟨fm_gd _ hg, fun y hy => by simp at hy; rw [hy]; exact hx⟩)]
    rfl
theorem fk_it {R : Rl} {wm : Int} {x : It} (h : ItOk R x) : fk R wm (itE x).1 = if goneB R wm x.f then none else some (kb x.D (flq R wm x.f x.g) ((stq R wm x.f x.g : Nat) : Int)) := by
  have h1 := rdF_kb x.D x.f (x.g : Int) h.r
  have h2 := fk_of (R := R) (w := wm) h1
  rw [Int.toNat_natCast] at h2
  exact h2
/-- Entries of one's own that are what came of the first items. -/
structure FoI (R : Rl) (wm : Int) (its : List It) (w1 : World) (k : Nat) (xs : List Ev) (v : Value) (wr : World) : Prop where
  r : wr.ownsRow w1.heap.size 59 7 v xs.length (xs.flatMap c7)
  ks : ∀ x ∈ xs, Own wr w1.heap.size x.kv x.k
  m : xs.map evE = foldF R wm ((its.take k).map itE)
  c : ∀ x ∈ xs, CnOk x.a
  b : Below w1.heap.size w1 wr
theorem FoI.below {R : Rl} {wm : Int} {its : List It} {w1 : World} {k : Nat} {xs : List Ev} {v : Value} {wr W : World} (h : FoI R wm its w1 k xs v wr) (hb : Below wr.heap.size wr W) : FoI R wm its w1 k xs v W :=
  ⟨row_below h.r hb, fun x hx => (h.ks x hx).below hb, h.m, h.c, h.b.trans (hb.mono h.b.size)⟩
theorem FoI.start (R : Rl) (wm : Int) (its : List It) (w1 : World) : FoI R wm its w1 0 [] (.slice none 0 0) w1 := ⟨World.ownsRow_nil _ _ _ _, fun x hx => (by cases hx), rfl, fun x hx => (by cases hx), Below.refl _ _⟩
theorem FoI.srt {R : Rl} {wm : Int} {its : List It} {w1 : World} {k : Nat} {xs : List Ev} {v : Value} {wr : World} (h : FoI R wm its w1 k xs v wr) : SrtE (xs.map evE) := by rw [h.m]; exact foldF_srt _ _ _
theorem own_one {w : World} {base : Nat} {v : Value} {l : List UInt8} (h : Own w base v l) : v.oneCell' = true := by
  obtain ⟨a, c, rfl, _⟩ := h.form
  rfl
theorem take_it {its : List It} {k : Nat} (hk : k < its.length) : (its.take (k + 1)).map itE = (its.take k).map itE ++ [itE its[k]] := by
  rw [List.take_add_one, List.getElem?_eq_getElem hk, List.map_append]; rfl
/-- What is gone is passed by. -/
theorem FoI.pass {R : Rl} {wm : Int} {its : List It} {w1 : World} {k : Nat} {xs : List Ev} {v : Value} {wr : World} (h : FoI R wm its w1 k xs v wr) (hk : k < its.length) (hok : ∀ x ∈ its, ItOk R x) (hg : goneB R wm its[k].f = true) : FoI R wm its w1 (k + 1) xs v wr := by
  refine ⟨h.r, h.ks, ?_, h.c, h.b⟩
  have hx := hok its[k] (List.getElem_mem hk)
  rw [take_it hk, foldF_snoc (its_gd (fun x hx => hok x (List.mem_of_mem_take hx))) hx.gd, fk_it hx, if_pos hg, h.m]
theorem fold_next {R : Rl} {wm : Int} {its : List It} {k : Nat} (hk : k < its.length) (hok : ∀ x ∈ its, ItOk R x) (hg : goneB R wm its[k].f = false) : foldF R wm ((its.take (k + 1)).map itE) = ins (kb its[k].D (flq R wm its[k].f its[k].g) ((stq R wm its[k].f its[k].g : Nat) : Int), its[k].a) (foldF R wm ((its.take k).map itE)) := by
  have hx := hok its[k] (List.getElem_mem hk)
  rw [take_it hk, foldF_snoc (its_gd (fun x hx => hok x (List.mem_of_mem_take hx))) hx.gd, fk_it hx, hg]
  rfl
theorem map_get {xs : List Ev} {j : Nat} (hj : j < xs.length) : (xs.map evE)[j]'(by simpa using hj) = (xs[j].k, xs[j].a) := by simp [evE]
theorem srt_take {E : List En} (hs : SrtE E) {j : Nat} (hj : j < E.length) {K : Ks} (h : E[j].1 = K ∨ ltK E[j].1 K) : ∀ y ∈ E.take j, ltK y.1 K := by
  intro y hy
  obtain ⟨t, ht, rfl⟩ := List.getElem_of_mem hy
  simp at ht
  rw [List.getElem_take]
  have := List.pairwise_iff_getElem.1 hs t j (by simp [keysE]; omega) (by simpa [keysE] using hj) (by omega)
  simp only [keysE, List.getElem_map] at this
  rcases h with h | h
  · rw [← h]; exact this
  · exact ltK_trans this h
/-- All from a place on stand behind a key. -/
def Behind (xs : List Ev) (j : Nat) (K : Ks) : Prop := ∀ t (ht : t < xs.length), j ≤ t → ltK K xs[t].k
theorem behind_drop {xs : List Ev} {j : Nat} {K : Ks} (h : Behind xs j K) : ∀ y ∈ (xs.map evE).drop j, ltK K y.1 := by
  intro y hy
  obtain ⟨t, ht, rfl⟩ := List.getElem_of_mem hy
  simp at ht
  rw [List.getElem_drop]
  have := h (j + t) (by omega) (by omega)
  simpa [evE] using this
theorem behind_step {xs : List Ev} {j : Nat} {K : Ks} (h : Behind xs (j + 1) K) (hj : j < xs.length) (hl : ltK K xs[j].k) : Behind xs j K := by
  intro t ht hjt
  rcases Nat.lt_or_ge j t with h1 | h1
  · exact h t ht h1
  · have : t = j := by omega
    subst this; exact hl
/-- A new entry at its place. -/
theorem FoI.put {R : Rl} {wm : Int} {its : List It} {w1 : World} {k : Nat} {xs : List Ev} {v v' : Value} {wr W : World} {o : Obj} {j : Nat} {kv : Value} {K : Ks} (h : FoI R wm its w1 k xs v wr) (hk : k < its.length) (hok : ∀ x ∈ its, ItOk R x)
    (hn : foldF R wm ((its.take (k + 1)).map itE) = ins (K, its[k].a) (foldF R wm ((its.take k).map itE))) (hj : j ≤ xs.length) (hbh : Behind xs j K) (hah : j = 0 ∨ ∃ (h0 : j - 1 < xs.length), ltK xs[j - 1].k K) (ho : Own wr w1.heap.size kv K)
    (hW : InPost (wr.alloc o) w1.heap.size v xs j ⟨kv, K, its[k].a⟩ (.returned v') W) : FoI R wm its w1 (k + 1) (insE xs j ⟨kv, K, its[k].a⟩) v' W := by
  obtain ⟨v2, e, hown, hg⟩ := hW
  cases e
  have hal := (Below.refl wr.heap.size wr).alloc (Nat.le_refl _) o
  have hrl := World.ownsRow.lt h.r
  have hu : ∀ (t : Nat) (cs : Array Value) (fr : Nat × Nat), wr.heap[t]? = some (Obj.cells cs 5 fr) → W.heap[t]? = some (Obj.cells cs 5 fr) := fun t cs fr q => by
    have hlt := (Array.getElem?_eq_some_iff.1 q).1
    refine (hg.block t (by simp; omega) (fun e => ?_)).trans ((hal.block t hlt).trans q)
    rcases h.r.2 with ⟨q2, _⟩ | ⟨g0, c0, cur, q2, _, hw, _⟩
    · rw [q2] at e; simp [Value.ownBlock] at e
    · rw [q2] at e; simp [Value.ownBlock] at e; subst e
      rw [q] at hw; simp at hw
  refine ⟨by rw [insE_len hj]; exact hown, fun x hx => ?_, ?_, fun x hx => ?_, ?_⟩
  · unfold insE at hx
    rcases List.mem_append.1 hx with hx | hx
    · exact own_kp (h.ks x (List.mem_of_mem_take hx)) hu
    · rcases List.mem_cons.1 hx with rfl | hx
      · exact own_kp ho hu
      · exact own_kp (h.ks x (List.mem_of_mem_drop hx)) hu
  · rw [hn, ← h.m]
    unfold insE
    rw [List.map_append, List.map_cons, List.map_take, List.map_drop]
    have e2 : xs.map evE = (xs.map evE).take j ++ (xs.map evE).drop j := (List.take_append_drop j _).symm
    have hA : ∀ y ∈ (xs.map evE).take j, ltK y.1 K := by
      rcases hah with h0 | ⟨h0, hl⟩
      · subst h0; intro y hy; simp at hy
      · intro y hy
        rcases Nat.eq_zero_or_pos j with hz | hz
        · subst hz; simp at hy
        · obtain ⟨t, ht, rfl⟩ := List.getElem_of_mem hy
          simp at ht
          rw [List.getElem_take]
          rcases Nat.lt_or_ge t (j - 1) with h1 | h1
          · exact srt_take h.srt (j := j - 1) (by simpa using h0) (.inr (by simpa [evE] using hl)) _ (by
              rw [List.mem_take_iff_getElem]
              exact ⟨t, by simp; omega, by simp⟩)
          · have : t = j - 1 := by omega
            subst this
            simpa [evE] using hl
    have := ins_at (x := (K, its[k].a)) hA (behind_drop hbh)
    rw [← e2] at this
    rw [this]; rfl
  · unfold insE at hx
    rcases List.mem_append.1 hx with hx | hx
    · exact h.c x (List.mem_of_mem_take hx)
    · rcases List.mem_cons.1 hx with rfl | hx
      · exact (hok its[k] (List.getElem_mem hk)).c
      · exact h.c x (List.mem_of_mem_drop hx)
  · exact (h.b.alloc h.b.size o).grown hg (by have := h.b.size; simp; omega) (fun t ht => (hrl t ht).1)
/-- An entry that knows more. -/
theorem FoI.more {R : Rl} {wm : Int} {its : List It} {w1 : World} {k : Nat} {xs : List Ev} {g cap : Nat} {wr W : World} {cur : Array Value} {j : Nat} {K : Ks} (h : FoI R wm its w1 k xs (.slice (some ⟨g, 0, none⟩) xs.length cap) wr) (hk : k < its.length) (hok : ∀ x ∈ its, ItOk R x)
    (hn : foldF R wm ((its.take (k + 1)).map itE) = ins (K, its[k].a) (foldF R wm ((its.take k).map itE))) (hj : j < xs.length) (he : xs[j].k = K)
    (hcur : wr.heap[g]? = some (.cells cur 59)) (hW : StW wr W g (j * 7 + 1) cur 59 (a6 (mrg xs[j].a its[k].a))) : FoI R wm its w1 (k + 1) (xs.set j ⟨xs[j].kv, xs[j].k, mrg xs[j].a its[k].a⟩) (.slice (some ⟨g, 0, none⟩) xs.length cap) W := by
  have hx := hok its[k] (List.getElem_mem hk)
  have hgl := World.ownsRow.lt h.r g rfl
  have hset := row_setA h.r hcur hW hj rfl
  have hu : ∀ (t : Nat) (cs : Array Value) (fr : Nat × Nat), wr.heap[t]? = some (Obj.cells cs 5 fr) → W.heap[t]? = some (Obj.cells cs 5 fr) := fun t cs fr q => (hW.o t (typ_ne q hcur (by decide))).trans q
  have hmem : ∀ x ∈ xs.set j ⟨xs[j].kv, xs[j].k, mrg xs[j].a its[k].a⟩, x ∈ xs ∨ x = ⟨xs[j].kv, xs[j].k, mrg xs[j].a its[k].a⟩ := fun x hx => List.mem_or_eq_of_mem_set hx
  refine ⟨by rw [List.length_set]; exact hset, fun x hx => ?_, ?_, fun x hx => ?_, h.b.trans (hW.b _ hgl.1)⟩
  · rcases hmem x hx with hx | rfl
    · exact own_kp (h.ks x hx) hu
    · exact own_kp (h.ks xs[j] (List.getElem_mem hj)) hu
  · rw [hn, ← h.m]
    have hgd : GdE (xs.map evE) := by rw [h.m]; exact foldF_gd (its_gd (fun x hx => hok x (List.mem_of_mem_take hx)))
    have e2 : xs.map evE = (xs.map evE).take j ++ (xs[j].k, xs[j].a) :: (xs.map evE).drop (j + 1) := by
      have h1 := List.take_append_drop j (xs.map evE)
      rw [List.drop_eq_getElem_cons (show j < (xs.map evE).length by simpa using hj), map_get hj] at h1
      exact h1.symm
    have h3 := ins_mid (x := (K, its[k].a)) (l := (xs[j].k, xs[j].a)) he.symm (A := (xs.map evE).take j) (B := (xs.map evE).drop (j + 1)) (srt_take h.srt (by simpa using hj) (.inl (by rw [map_get hj]; exact he)))
    rw [← e2] at h3
    rw [h3, List.map_set, gd_comm hx.gd (hgd (xs[j].k, xs[j].a) (by rw [e2]; simp))]
    rw [List.set_eq_take_append_cons_drop, if_pos (by simpa using hj)]
    rfl
  · rcases hmem x hx with hx | rfl
    · exact h.c x hx
    · exact mrg_cnk (h.c xs[j] (List.getElem_mem hj)) (hok its[k] (List.getElem_mem hk)).c
end Go.Proofs.Ytbadjigfcncfcaa

/- The contract of fold.folded. -/
namespace Go.Proofs.Ytbadjigfcncfcaa
open Go.RowKit

def FdPost (R : Rl) (wm : Int) (its : List It) (w : World) (e : Ending) (w' : World) : Prop :=
  ∃ v' xs, e = .returned v' ∧ EOwn w' w.heap.size v' xs ∧ xs.map evE = foldF R wm (its.map itE) ∧ (∀ x ∈ xs, CnOk x.a) ∧ Below w.heap.size w w'
set_option maxRecDepth 100000 in
set_option maxHeartbeats 8000000 in
theorem folded_any (R : Rl) (hR : RightP R) (wm : Int) (hwm : isT wm = true) (v : Value) (its : List It) (w : World) (hL : Lies R w.heap.size w) (hT : TReads w v its) (hok : ∀ x ∈ its, ItOk R x) (hl : its.length ≤ 100000) :
    Calls Try.prog 28 #[.agg #[.slice R.a R.len R.cap, .int .i64 R.kp], .int .i64 wm, v] w (FdPost R wm its w) := by
  have HL : Hid (Lies R w.heap.size w) := hL
  have HT : Hid (TReads w v its) := hT
  have HOK : Hid _ := hok
  have HR : Hid (RightP R) := hR
  obtain ⟨a, cap, rfl, hm1, hm2⟩ := hT.form
  unfold maxLen at hm2
  clear hL hT hok hR
  obtain ⟨w1, HW1⟩ := hid_ex (w.alloc (.cells #[.slice R.a R.len R.cap, .int .i64 R.kp] 33))
  have HB1 : Hid (Below w.heap.size w w1) := by rw [HW1.out]; exact new_below _ _
  have HX1 : Hid (RBox R w.heap.size w1) := by rw [HW1.out]; exact RBox.new R w _
  have HI0 : Hid (FoI R wm its w1 0 [] (.slice none 0 0) w1) := FoI.start R wm its w1
  have HEnd : Hid (∀ v' xs wr, FoI R wm its w1 its.length xs v' wr → FdPost R wm its w (.returned v') wr) := fun v' xs wr h => ⟨v', xs, rfl, ⟨own_mono h.r HB1.out.size, fun x hx => (h.ks x hx).mono HB1.out.size⟩, by rw [h.m, List.take_length], h.c, HB1.out.trans (h.b.mono HB1.out.size)⟩
  have HLI : Hid (∀ W, Below w1.heap.size w1 W → Lies R W.heap.size W ∧ RBox R w.heap.size W ∧ Below w.heap.size w W) := fun W hW => ⟨HL.out.at (HB1.out.trans (hW.mono HB1.out.size)), HX1.out.below hW, HB1.out.trans (hW.mono HB1.out.size)⟩
  go_enter Try.func28, Try.ntmps28
  go_wp2_with fail
  rw [← HW1.out]
  clear HW1
  go_step3
  go_wp2_with fail
  go_step3
  go_wp2_with fail
  go_loopw [7, 17] (fun ov i wr => ∃ (k : Nat) (xs : List Ev), i = .int .i64 (k : Int) ∧ k ≤ its.length ∧ Hid (FoI R wm its w1 k xs ov wr)) (fun _ i _ => its.length - (intOf i).toNat)
  case atStart => exact ⟨0, [], rfl, by omega, HI0⟩
  case round =>
    clear HI0
    obtain ⟨k, xs, rfl, hk, HC⟩ := hrel
    by_cases hlt : k < its.length
    · obtain ⟨b, off, rfl, hbw, hcw, hsr⟩ := HT.out.at hlt
      have hbr := (HLI.out _ HC.out.b).2.2
      have hok := HOK.out its[k] (List.getElem_mem hlt)
      have HPS : Hid (∀ wr', FoI R wm its w1 k xs u7 wr' → goneB R wm its[k].f = true → FoI R wm its w1 (k + 1) xs u7 wr') := fun wr' h1 h2 => h1.pass hlt HOK.out h2
      have HNX0 : Hid (goneB R wm its[k].f = false → foldF R wm ((its.take (k + 1)).map itE) = ins (kb its[k].D (flq R wm its[k].f its[k].g) ((stq R wm its[k].f its[k].g : Nat) : Int), its[k].a) (foldF R wm ((its.take k).map itE))) := fun h => fold_next hlt HOK.out h
      have HPUT : Hid (∀ (wr' W : World) (v v' : Value) (o : Obj) (j : Nat) (kv : Value) (K : Ks), FoI R wm its w1 k xs v wr' → foldF R wm ((its.take (k + 1)).map itE) = ins (K, its[k].a) (foldF R wm ((its.take k).map itE)) → j ≤ xs.length → Behind xs j K → (j = 0 ∨ ∃ (h0 : j - 1 < xs.length), ltK xs[j - 1].k K) → Own wr' w1.heap.size kv K → InPost (wr'.alloc o) w1.heap.size v xs j ⟨kv, K, its[k].a⟩ (.returned v') W → FoI R wm its w1 (k + 1) (insE xs j ⟨kv, K, its[k].a⟩) v' W) := fun wr' W v v' o j kv K h1 h2 h3 h4 h5 h6 h7 => h1.put hlt HOK.out h2 h3 h4 h5 h6 h7
      have HMOR : Hid (∀ (wr' W : World) (g cap : Nat) (cur : Array Value) (j : Nat) (K : Ks), FoI R wm its w1 k xs (.slice (some ⟨g, 0, none⟩) xs.length cap) wr' → foldF R wm ((its.take (k + 1)).map itE) = ins (K, its[k].a) (foldF R wm ((its.take k).map itE)) → ∀ (hj : j < xs.length), xs[j].k = K → wr'.heap[g]? = some (.cells cur 59) → StW wr' W g (j * 7 + 1) cur 59 (a6 (mrg xs[j].a its[k].a)) → FoI R wm its w1 (k + 1) (xs.set j ⟨xs[j].kv, xs[j].k, mrg xs[j].a its[k].a⟩) (.slice (some ⟨g, 0, none⟩) xs.length cap) W) := fun wr' W g cap cur j K h1 h2 hj h3 h4 h5 => h1.more hlt HOK.out h2 hj h3 h4 h5
      have HXL : Hid (xs.length ≤ 100000) := by
        have h1 := congrArg List.length HC.out.m
        have h2 := foldF_len R wm ((its.take k).map itE)
        unfold Hid
        simp at h1 h2
        omega
      have hc : ∀ i (hi : i < 9), wr.cell? ⟨b, off + k * 9 + i, none⟩ = some ((c9 its[k])[i]'hi) := fun i hi => (hbr.cell (p := ⟨b, off + k * 9 + i, none⟩) hbw).trans (hcw i hi)
      have hsr2 := hsr.below hbr
      obtain ⟨X, HX⟩ := hid_ex its[k]
      rw [← HX.out] at hc hok HPS HNX0 HPUT HMOR hsr2
      have hbeg := hok.beg HR.out
      obtain ⟨va, vc, hvd, _⟩ := hsr2.form
      obtain ⟨dn, Hdn⟩ := hid_ex X.D.length
      rw [← Hdn.out] at hvd
      rw [hvd] at hsr2
      have c0 := hc 0 (by decide)
      have c1 := hc 1 (by decide)
      have c2 := hc 2 (by decide)
      have c3 := hc 3 (by decide)
      have c4 := hc 4 (by decide)
      have c5 := hc 5 (by decide)
      have c6 := hc 6 (by decide)
      have c7 := hc 7 (by decide)
      have c8 := hc 8 (by decide)
      simp only [c9, List.getElem_cons_zero, List.getElem_cons_succ, Nat.add_zero] at c0 c1 c2 c3 c4 c5 c6 c7 c8
      rw [hvd] at c0
      obtain ⟨w3, HW3⟩ := hid_ex (wr.alloc (.cells #[.slice va dn vc, .int .i64 X.f, .int .i64 (X.g : Int), .int .u64 X.a.c, .bool X.a.o, .int .i64 (hi X.a.s), .int .u64 (lo X.a.s), .int .i64 X.a.mn, .int .i64 X.a.mx] 75))
      have hb3 : Below wr.heap.size wr w3 := by rw [HW3.out]; exact new_below _ _
      have HC3 : Hid (FoI R wm its w1 k xs u7 w3) := HC.out.below hb3
      have HBX : Hid (w3.heap[wr.heap.size]? = some (.cells #[.slice va dn vc, .int .i64 X.f, .int .i64 (X.g : Int), .int .u64 X.a.c, .bool X.a.o, .int .i64 (hi X.a.s), .int .u64 (lo X.a.s), .int .i64 X.a.mn, .int .i64 X.a.mx] 75)) := by rw [HW3.out]; exact heap_alloc_new _ _
      have HSR3 : Hid (SReads w3 (.slice va dn vc) X.D) := hsr2.below hb3
      have HFO : Hid (∀ W, Lies R W.heap.size W → Calls Try.prog 29 #[.agg #[.slice R.a R.len R.cap, .int .i64 R.kp], .int .i64 wm, .agg #[.slice va dn vc, .int .i64 X.f, .int .i64 (X.g : Int)]] W fun e w' => e = .returned (fateV R wm X.f X.g) ∧ Below W.heap.size W w') := fun W hW => fateOf_any R HR.out wm hwm va dn vc X.f X.g hbeg.t hbeg.gl W hW
      have HRN : Hid (rightBK X.D (flq R wm X.f X.g) ((stq R wm X.f X.g : Nat) : Int) = true) := by
        have h1 := rdF_kb X.D X.f (X.g : Int) hok.r
        have h2 := right_next HR.out h1 (by rw [Int.toNat_natCast]; exact hbeg.gl) wm
        rw [Int.toNat_natCast] at h2
        exact h2
      have hfb := flq_bd HR.out hbeg.gl hbeg.t wm
      have hqb := stq_lt HR.out (w := wm) (f := X.f) hbeg.gl
      have hR4 := HR.out.2.1
      unfold fateV at HFO
      obtain ⟨fr, Hfr⟩ := hid_ex (flq R wm X.f X.g)
      obtain ⟨q, Hq⟩ := hid_ex (stq R wm X.f X.g)
      obtain ⟨gn, Hgn⟩ := hid_ex (goneB R wm X.f)
      rw [← Hfr.out, ← Hq.out, ← Hgn.out] at HFO HNX0
      rw [← Hfr.out, ← Hq.out] at HRN
      rw [← Hgn.out] at HPS
      rw [← Hfr.out] at hfb
      rw [← Hq.out] at hqb
      have HL3 : Hid (Lies R w3.heap.size w3) := (HLI.out _ HC3.out.b).1
      obtain ⟨hrx, r0, r1⟩ := (HLI.out _ HC.out.b).2.1
      have HAOK : Hid (CnOk X.a) := hok.c
      clear hc hcw hsr hsr2 hb3 hok hbeg Hfr Hq Hgn HX hbr HC
      go_wp2_with fail
      rw [← HW3.out]
      clear HW3 c0 c1 c2 c3 c4 c5 c6 c7 c8 r0 r1 hrx
      refine (HFO.out _ HL3.out).mono ?_
      rintro e w4 ⟨rfl, hb4⟩
      obtain ⟨w5, HW5⟩ := hid_ex (w4.alloc (.cells #[.int .i64 fr, .int .i64 (q : Int), .bool gn] 77))
      have hb5 : Below w3.heap.size w3 w5 := by rw [HW5.out]; exact hb4.alloc hb4.size _
      have HC5 : Hid (FoI R wm its w1 k xs u7 w5) := HC3.out.below hb5
      have HX5 : Hid (w5.heap[wr.heap.size]? = some (.cells #[.slice va dn vc, .int .i64 X.f, .int .i64 (X.g : Int), .int .u64 X.a.c, .bool X.a.o, .int .i64 (hi X.a.s), .int .u64 (lo X.a.s), .int .i64 X.a.mn, .int .i64 X.a.mx] 75)) := (hb5.block _ (Array.getElem?_eq_some_iff.1 HBX.out).1).trans HBX.out
      have HF5 : Hid (w5.heap[w4.heap.size]? = some (.cells #[.int .i64 fr, .int .i64 (q : Int), .bool gn] 77)) := by rw [HW5.out]; exact heap_alloc_new _ _
      have HSR5 : Hid (SReads w5 (.slice va dn vc) X.D) := HSR3.out.below hb5
      clear hb4 hb5 HC3 HBX HSR3 HL3 HFO
      cases gn with
      | true =>
        have HN5 : Hid (FoI R wm its w1 (k + 1) xs u7 w5) := HPS.out _ HC5.out rfl
        go_wp2_with fail
        rw [← HW5.out]
        go_roundw
        case rel => exact ⟨k + 1, xs, by go_num, by omega, HN5⟩
        case measure => simp [intOf]; omega
      | false =>
        have HNX : Hid _ := HNX0.out rfl
        obtain ⟨K, HK⟩ := hid_ex (kb X.D fr (q : Int))
        rw [← HK.out] at HNX
        have HKL : Hid (KLies ⟨.slice va dn vc, X.D, fr, (q : Int)⟩ w5) := ⟨HSR5.out, by show (-9223372036854775808 : Int) ≤ fr; omega, by show fr ≤ (9223372036854775807 : Int); omega, by show (-9223372036854775808 : Int) ≤ (q : Int); omega, by show (q : Int) ≤ (9223372036854775807 : Int); omega⟩
        have HWY : Hid (Calls Try.prog 50 #[.agg #[.slice va dn vc, .int .i64 fr, .int .i64 (q : Int)]] w5 fun e w' => ∃ v, e = .returned (.tuple #[v, .int .i64 0]) ∧ Own w' w5.heap.size v K ∧ Below w5.heap.size w5 w') := by rw [HK.out]; exact write_yes ⟨.slice va dn vc, X.D, fr, (q : Int)⟩ HRN.out w5 HKL.out
        have x0 := (cell_row HX5.out 0 (by simp)).1
        have f0 := (cell_row HF5.out 0 (by simp)).1
        have f1 := (cell_row HF5.out 1 (by simp)).1
        have f2 := (cell_row HF5.out 2 (by simp)).1
        simp only [List.getElem_toArray, List.getElem_cons_zero, List.getElem_cons_succ] at x0 f0 f1 f2
        clear hfb hqb HPS HNX0 HRN HKL HSR5
        have HW5' : Hid (w4.alloc (.cells #[.int .i64 fr, .int .i64 (q : Int), .bool false] 77) = w5) := HW5.out.symm
        go_wp2_with (rw [HW5'.out])
        refine HWY.out.mono ?_
        rintro e w6 ⟨vk, rfl, hown6, hb6⟩
        have HC6 : Hid (FoI R wm its w1 k xs u7 w6) := HC5.out.below hb6
        obtain ⟨bx, Hbx⟩ := hid_ex wr.heap.size
        have HX6 : Hid (w6.heap[bx]? = some (.cells #[.slice va dn vc, .int .i64 X.f, .int .i64 (X.g : Int), .int .u64 X.a.c, .bool X.a.o, .int .i64 (hi X.a.s), .int .u64 (lo X.a.s), .int .i64 X.a.mn, .int .i64 X.a.mx] 75)) := by rw [Hbx.out]; exact (hb6.block _ (Array.getElem?_eq_some_iff.1 HX5.out).1).trans HX5.out
        rw [← Hbx.out]
        have HO5 : Hid (Own w6 w1.heap.size vk K) := hown6.mono HC5.out.b.size
        obtain ⟨sk, ck, rfl, _⟩ := hown6.form
        obtain ⟨kn, Hkn⟩ := hid_ex K.length
        rw [← Hkn.out] at HO5 ⊢
        obtain ⟨ua, uc, hu7⟩ := row_form HC6.out.r
        have HU7 : Hid (u7 = .slice ua xs.length uc) := hu7
        clear hown6 hb6 x0 f0 f1 f2 HC5 HX5 HF5 HW5 HW5' HWY Hbx hu7
        have hlen : ∀ W, (Builtin.len_ #[25] 3 #[u7]).run Try.prog W = .ok (.int .i64 (xs.length : Int)) W := fun W => by rw [HU7.out]; rfl
        go_wp2_with fail
        go_loopw [13] (fun at' wq => ∃ j : Nat, at' = .int .i64 (j : Int) ∧ j ≤ xs.length ∧ Hid (Behind xs j K) ∧ Hid (Below w6.heap.size w6 wq)) (fun at' _ => (intOf at').toNat)
        case atStart => exact ⟨xs.length, rfl, Nat.le_refl _, fun t ht h => by omega, Below.refl _ _⟩
        case round =>
          obtain ⟨j, rfl, hj, HBh, HWr⟩ := hrel
          have HCr : Hid (FoI R wm its w1 k xs u7 wr) := HC6.out.below HWr.out
          have HXr : Hid (wr.heap[bx]? = some (.cells #[.slice va dn vc, .int .i64 X.f, .int .i64 (X.g : Int), .int .u64 X.a.c, .bool X.a.o, .int .i64 (hi X.a.s), .int .u64 (lo X.a.s), .int .i64 X.a.mn, .int .i64 X.a.mx] 75)) := (HWr.out.block _ (Array.getElem?_eq_some_iff.1 HX6.out).1).trans HX6.out
          clear hlen
          rcases Nat.eq_zero_or_pos j with hj0 | hj0
          · have HAH : Hid (j = 0 ∨ ∃ (h0 : j - 1 < xs.length), ltK xs[j - 1].k K) := .inl hj0
            have hng : ¬ ((0 : Int) < (j : Int)) := by rw [hj0]; decide
            clear hj0
            have HOr : Hid (Own wr w1.heap.size (.slice sk kn ck) K) := HO5.out.below HWr.out
            have HVB : Hid (u7.ownBlock ≠ some wr.heap.size) := fun e => by have := (World.ownsRow.lt HCr.out.r _ e).2; omega
            have d3 := (cell_row HXr.out 3 (by simp)).1
            have d4 := (cell_row HXr.out 4 (by simp)).1
            have d5 := (cell_row HXr.out 5 (by simp)).1
            have d6 := (cell_row HXr.out 6 (by simp)).1
            have d7 := (cell_row HXr.out 7 (by simp)).1
            have d8 := (cell_row HXr.out 8 (by simp)).1
            simp only [List.getElem_toArray, List.getElem_cons_zero, List.getElem_cons_succ] at d3 d4 d5 d6 d7 d8
            obtain ⟨w7, HW7⟩ := hid_ex (wr.alloc (.cells #[.slice sk kn ck, .int .u64 X.a.c, .bool X.a.o, .int .i64 (hi X.a.s), .int .u64 (lo X.a.s), .int .i64 X.a.mn, .int .i64 X.a.mx] 59))
            have hb7 : Below wr.heap.size wr w7 := by rw [HW7.out]; exact new_below _ _
            have HC7 : Hid (FoI R wm its w1 k xs u7 w7) := HCr.out.below hb7
            have HN7 : Hid (w7.heap[wr.heap.size]? = some (.cells (c7 ⟨.slice sk kn ck, K, X.a⟩).toArray 59)) := by rw [HW7.out]; exact heap_alloc_new _ _
            have HLE : Hid (w1.heap.size ≤ w7.heap.size) := HC7.out.b.size
            have HKO : Hid (∀ x ∈ xs, x.kv.oneCell' = true) := fun x hx => own_one (HCr.out.ks x hx)
            clear hb7
            go_wp2_with fail
            rw [← HW7.out]
            refine (insert_any u7 xs (j) ⟨.slice sk kn ck, K, X.a⟩ _ w1.heap.size wr.heap.size HC7.out.r (by have := HXL.out; omega) hj HLE.out HVB.out HKO.out rfl HN7.out).mono ?_
            rintro e w8 ⟨v8, rfl, hown8, hg8⟩
            have HN8 : Hid (FoI R wm its w1 (k + 1) (insE xs (j) ⟨.slice sk kn ck, K, X.a⟩) v8 w8) := HPUT.out wr w8 u7 v8 _ (j) _ K HCr.out HNX.out hj HBh.out HAH.out HOr.out ⟨v8, rfl, hown8, by rw [← HW7.out]; exact hg8⟩
            clear hown8 hg8 d3 d4 d5 d6 d7 d8 HW7
            go_wp2_with fail
            go_roundw
            case rel => exact ⟨k + 1, _, by go_num, by omega, HN8⟩
            case measure => simp [intOf]; omega
          · obtain ⟨i, rfl⟩ : ∃ i, j = i + 1 := ⟨j - 1, by omega⟩
            have hil : i < xs.length := by omega
            obtain ⟨a', cap', hv', _, _, hcl⟩ := EOwn.at ⟨HCr.out.r, HCr.out.ks⟩
            obtain ⟨g, rfl, hgb, hgl, hcell⟩ := hcl (by omega)
            subst hv'
            have hkr := (HCr.out.ks xs[i] (List.getElem_mem hil)).reads
            have HST : Hid (ltK K xs[i].k → Behind xs i K) := fun h => behind_step HBh.out hil h
            have HLO : Hid (ltK xs[i].k K → (i + 1 = 0 ∨ ∃ (h0 : i + 1 - 1 < xs.length), ltK xs[i + 1 - 1].k K)) := fun h => .inr ⟨by simpa using hil, by simpa using h⟩
            have HMO : Hid (∀ (wr' W : World) (cur : Array Value), FoI R wm its w1 k xs (.slice (some ⟨g, 0, none⟩) xs.length cap') wr' → xs[i].k = K → wr'.heap[g]? = some (.cells cur 59) → StW wr' W g (i * 7 + 1) cur 59 (a6 (mrg xs[i].a X.a)) → FoI R wm its w1 (k + 1) (xs.set i ⟨xs[i].kv, xs[i].k, mrg xs[i].a X.a⟩) (.slice (some ⟨g, 0, none⟩) xs.length cap') W) := fun wr' W cur h1 h3 h4 h5 => HMOR.out wr' W g cap' cur i K h1 HNX.out hil h3 h4 h5
            have hca := HCr.out.c xs[i] (List.getElem_mem hil)
            have c0 := (hcell i hil 0 (by decide)).1
            have c1 := (hcell i hil 1 (by decide)).1
            have c2 := (hcell i hil 2 (by decide)).1
            have c3 := (hcell i hil 3 (by decide)).1
            have c4 := (hcell i hil 4 (by decide)).1
            have c5 := (hcell i hil 5 (by decide)).1
            have c6 := (hcell i hil 6 (by decide)).1
            obtain ⟨Y, HY⟩ := hid_ex xs[i]
            rw [← HY.out] at hkr HST HLO HMO hca c0 c1 c2 c3 c4 c5 c6
            simp only [Go.Proofs.Ytbadjigfcncfcaa.c7, List.getElem_cons_zero, List.getElem_cons_succ] at c0 c1 c2 c3 c4 c5 c6
            rw [show 7 * i + 0 = i * 7 by omega] at c0
            rw [show 7 * i + 1 = i * 7 + 1 by omega] at c1
            rw [show 7 * i + 2 = i * 7 + 1 + 1 by omega] at c2
            rw [show 7 * i + 3 = i * 7 + 1 + 2 by omega] at c3
            rw [show 7 * i + 4 = i * 7 + 1 + 3 by omega] at c4
            rw [show 7 * i + 5 = i * 7 + 1 + 4 by omega] at c5
            rw [show 7 * i + 6 = i * 7 + 1 + 5 by omega] at c6
            obtain ⟨ay, cy, hyf, _⟩ := hkr.form
            obtain ⟨yn, Hyn⟩ := hid_ex Y.k.length
            rw [← Hyn.out] at hyf
            rw [hyf] at c0 hkr
            have HKR : Hid (Reads wr (.slice ay yn cy) Y.k) := hkr
            have HOr0 : Hid (Reads wr (.slice sk kn ck) K) := (HO5.out.below HWr.out).reads
            have hn1 : xs.length ≤ 100000 := HXL.out
            obtain ⟨cc, HCC⟩ := hid_ex (Lib.compareBytes Y.k K)
            obtain ⟨rx, Hrx⟩ := row_block HCr.out.r
            clear hcl hcell hkr HY
            by_cases h3 : Y.k = K
            · have hc0 : (cc == 0) = true := by rw [HCC.out, h3, cmp_refl]; rfl
              have H3 : Hid (Y.k = K) := h3
              clear h3
              go_wp2_with fail
              refine (cmp_any _ _ Y.k K _ HKR.out HOr0.out).mono ?_
              rw [← HCC.out]
              rintro e w7 ⟨rfl, hw7⟩
              rw [hw7]
              clear hw7 w7
              go_wp2_with fail
              have d3 := (cell_row HXr.out 3 (by simp)).1
              have d4 := (cell_row HXr.out 4 (by simp)).1
              have d5 := (cell_row HXr.out 5 (by simp)).1
              have d6 := (cell_row HXr.out 6 (by simp)).1
              have d7 := (cell_row HXr.out 7 (by simp)).1
              have d8 := (cell_row HXr.out 8 (by simp)).1
              simp only [List.getElem_toArray, List.getElem_cons_zero, List.getElem_cons_succ] at d3 d4 d5 d6 d7 d8
              have hbxl : bx < wr.heap.size := (Array.getElem?_eq_some_iff.1 HXr.out).1
              have hgl2 : g < wr.heap.size := (Array.getElem?_eq_some_iff.1 Hrx).1
              have HRX : Hid _ := Hrx
              refine wp_region_noPanic ?_
              refine wp_region_S 14 (fun _ => True) (fun w' => w'.cell? ⟨g, i * 7 + 1, none⟩ = some (.int .u64 Y.a.c) ∧ w'.cell? ⟨g, i * 7 + 1 + 1, none⟩ = some (.bool Y.a.o) ∧ w'.cell? ⟨g, i * 7 + 1 + 2, none⟩ = some (.int .i64 (hi Y.a.s)) ∧ w'.cell? ⟨g, i * 7 + 1 + 3, none⟩ = some (.int .u64 (lo Y.a.s)) ∧ w'.cell? ⟨g, i * 7 + 1 + 4, none⟩ = some (.int .i64 Y.a.mn) ∧ w'.cell? ⟨g, i * 7 + 1 + 5, none⟩ = some (.int .i64 Y.a.mx) ∧ w'.cell? ⟨bx, 3, none⟩ = some (.int .u64 X.a.c) ∧ w'.cell? ⟨bx, 4, none⟩ = some (.bool X.a.o) ∧ w'.cell? ⟨bx, 5, none⟩ = some (.int .i64 (hi X.a.s)) ∧ w'.cell? ⟨bx, 6, none⟩ = some (.int .u64 (lo X.a.s)) ∧ w'.cell? ⟨bx, 7, none⟩ = some (.int .i64 X.a.mn) ∧ w'.cell? ⟨bx, 8, none⟩ = some (.int .i64 X.a.mx)) (by kernel_rfl) ?_ ?_ (fun hHeld => ?_)
              · trivial
              · exact ⟨c1, c2, c3, c4, c5, c6, d3, d4, d5, d6, d7, d8⟩
              refine wpAnyS_take (i := 0) (v := .slice (some ⟨g, 0, none⟩) xs.length cap') _ rfl (by kernel_rfl) (by kernel_rfl) (by kernel_rfl) (by kernel_rfl) (by kernel_rfl) rfl (fun _ _ _ h => h) (Or.inl ⟨by rfl, ?_⟩) hHeld (fun hHeld => ?_)
              · (intro w1 hSw; have hSw := hSw.1; (try dsimp only at hSw); go_simp)
              simp only [List.getElem_toArray, List.getElem_cons_zero, Act.put, List.setIfInBounds_toArray, List.set_cons_zero, List.set_cons_succ]
              refine wpAnyS_take (i := 1) (v := .int .i64 ((i : Int) + 1)) _ rfl (by kernel_rfl) (by kernel_rfl) (by kernel_rfl) (by kernel_rfl) (by kernel_rfl) rfl (fun _ _ _ h => h) (Or.inl ⟨by rfl, ?_⟩) hHeld (fun hHeld => ?_)
              · (intro w1 hSw; have hSw := hSw.1; (try dsimp only at hSw); go_simp)
              simp only [List.getElem_toArray, List.getElem_cons_succ, List.getElem_cons_zero, Act.put, List.setIfInBounds_toArray, List.set_cons_zero, List.set_cons_succ]
              refine wpAnyS_take (i := 2) (v := .int .i64 (i : Int)) _ rfl (by kernel_rfl) (by kernel_rfl) (by kernel_rfl) (by kernel_rfl) (by kernel_rfl) rfl (fun _ _ _ h => h) (Or.inl ⟨by rfl, ?_⟩) hHeld (fun hHeld => ?_)
              · (intro w1 hSw; have hSw := hSw.1; (try dsimp only at hSw); go_simp; (rw [IntKind.wrap_i64]; omega))
              simp only [List.getElem_toArray, List.getElem_cons_succ, List.getElem_cons_zero, Act.put, List.setIfInBounds_toArray, List.set_cons_zero, List.set_cons_succ]
              refine wpAnyS_take (i := 3) (v := .slice (some ⟨g, 0, none⟩) xs.length cap') _ rfl (by kernel_rfl) (by kernel_rfl) (by kernel_rfl) (by kernel_rfl) (by kernel_rfl) rfl (fun _ _ _ h => h) (Or.inl ⟨by rfl, ?_⟩) hHeld (fun hHeld => ?_)
              · (intro w1 hSw; have hSw := hSw.1; (try dsimp only at hSw); go_simp)
              simp only [List.getElem_toArray, List.getElem_cons_succ, List.getElem_cons_zero, Act.put, List.setIfInBounds_toArray, List.set_cons_zero, List.set_cons_succ]
              refine wpAnyS_take (i := 4) (v := .int .i64 ((i : Int) + 1)) _ rfl (by kernel_rfl) (by kernel_rfl) (by kernel_rfl) (by kernel_rfl) (by kernel_rfl) rfl (fun _ _ _ h => h) (Or.inl ⟨by rfl, ?_⟩) hHeld (fun hHeld => ?_)
              · (intro w1 hSw; have hSw := hSw.1; (try dsimp only at hSw); go_simp)
              simp only [List.getElem_toArray, List.getElem_cons_succ, List.getElem_cons_zero, Act.put, List.setIfInBounds_toArray, List.set_cons_zero, List.set_cons_succ]
              refine wpAnyS_take (i := 5) (v := .int .i64 (i : Int)) _ rfl (by kernel_rfl) (by kernel_rfl) (by kernel_rfl) (by kernel_rfl) (by kernel_rfl) rfl (fun _ _ _ h => h) (Or.inl ⟨by rfl, ?_⟩) hHeld (fun hHeld => ?_)
              · (intro w1 hSw; have hSw := hSw.1; (try dsimp only at hSw); go_simp; (rw [IntKind.wrap_i64]; omega))
              simp only [List.getElem_toArray, List.getElem_cons_succ, List.getElem_cons_zero, Act.put, List.setIfInBounds_toArray, List.set_cons_zero, List.set_cons_succ]
              refine wpAnyS_take (i := 6) (v := .pointer (some ⟨g, i * 7, none⟩)) _ rfl (by kernel_rfl) (by kernel_rfl) (by kernel_rfl) (by kernel_rfl) (by kernel_rfl) rfl (fun _ _ _ h => h) (Or.inl ⟨by rfl, ?_⟩) hHeld (fun hHeld => ?_)
              · (intro w1 hSw; have hSw := hSw.1; (try dsimp only at hSw); go_simp)
              simp only [List.getElem_toArray, List.getElem_cons_succ, List.getElem_cons_zero, Act.put, List.setIfInBounds_toArray, List.set_cons_zero, List.set_cons_succ]
              refine wpAnyS_take (i := 7) (v := .pointer (some ⟨g, i * 7 + 1, none⟩)) _ rfl (by kernel_rfl) (by kernel_rfl) (by kernel_rfl) (by kernel_rfl) (by kernel_rfl) rfl (fun _ _ _ h => h) (Or.inl ⟨by rfl, ?_⟩) hHeld (fun hHeld => ?_)
              · (intro w1 hSw; have hSw := hSw.1; (try dsimp only at hSw); go_simp)
              simp only [List.getElem_toArray, List.getElem_cons_succ, List.getElem_cons_zero, Act.put, List.setIfInBounds_toArray, List.set_cons_zero, List.set_cons_succ]
              refine wpAnyS_take (i := 8) (v := .agg #[.int .u64 Y.a.c, .bool Y.a.o, .int .i64 (hi Y.a.s), .int .u64 (lo Y.a.s), .int .i64 Y.a.mn, .int .i64 Y.a.mx]) true rfl (by kernel_rfl) (by kernel_rfl) (by kernel_rfl) (by kernel_rfl) (by kernel_rfl) (by kernel_rfl) (fun _ _ _ h => h) (Or.inl ⟨by rfl, ?_⟩) hHeld (fun hHeld => ?_)
              · (intro w1 hSw; have hSw2 := hSw.2 rfl; have hSw := hSw.1; (try dsimp only at hSw hSw2); go_simp)
              simp only [List.getElem_toArray, List.getElem_cons_succ, List.getElem_cons_zero, Act.put, List.setIfInBounds_toArray, List.set_cons_zero, List.set_cons_succ]
              refine wpAnyS_take (i := 9) (v := .pointer (some ⟨bx, 3, none⟩)) _ rfl (by kernel_rfl) (by kernel_rfl) (by kernel_rfl) (by kernel_rfl) (by kernel_rfl) rfl (fun _ _ _ h => h) (Or.inl ⟨by rfl, ?_⟩) hHeld (fun hHeld => ?_)
              · (intro w1 hSw; have hSw := hSw.1; (try dsimp only at hSw); go_simp)
              simp only [List.getElem_toArray, List.getElem_cons_succ, List.getElem_cons_zero, Act.put, List.setIfInBounds_toArray, List.set_cons_zero, List.set_cons_succ]
              refine wpAnyS_take (i := 10) (v := .agg #[.int .u64 X.a.c, .bool X.a.o, .int .i64 (hi X.a.s), .int .u64 (lo X.a.s), .int .i64 X.a.mn, .int .i64 X.a.mx]) true rfl (by kernel_rfl) (by kernel_rfl) (by kernel_rfl) (by kernel_rfl) (by kernel_rfl) (by kernel_rfl) (fun _ _ _ h => h) (Or.inl ⟨by rfl, ?_⟩) hHeld (fun hHeld => ?_)
              · (intro w1 hSw; have hSw2 := hSw.2 rfl; have hSw := hSw.1; (try dsimp only at hSw hSw2); go_simp)
              simp only [List.getElem_toArray, List.getElem_cons_succ, List.getElem_cons_zero, Act.put, List.setIfInBounds_toArray, List.set_cons_zero, List.set_cons_succ]
              refine wpAnyS_ready (i := 11) (by kernel_rfl) rfl (fun K hK => ?_)
              go_simp
              refine (merge_any Y.a X.a hca.1 hca.2 HAOK.out.1 HAOK.out.2 _).mono ?_
              rintro e wm' ⟨rfl, hbm0⟩
              have hbm : Below wr.heap.size wr wm' := (Below.refl wr.heap.size wr).drew.trans hbm0
              go_simp
              refine hK.out _ _ ⟨?_, fun _ => ?_⟩ (fun hHeld => ?_)
              · trivial
              · exact ⟨(hbm.cell (p := ⟨g, _, none⟩) hgl2).trans c1, (hbm.cell (p := ⟨g, _, none⟩) hgl2).trans c2, (hbm.cell (p := ⟨g, _, none⟩) hgl2).trans c3, (hbm.cell (p := ⟨g, _, none⟩) hgl2).trans c4, (hbm.cell (p := ⟨g, _, none⟩) hgl2).trans c5, (hbm.cell (p := ⟨g, _, none⟩) hgl2).trans c6, (hbm.cell (p := ⟨bx, _, none⟩) hbxl).trans d3, (hbm.cell (p := ⟨bx, _, none⟩) hbxl).trans d4, (hbm.cell (p := ⟨bx, _, none⟩) hbxl).trans d5, (hbm.cell (p := ⟨bx, _, none⟩) hbxl).trans d6, (hbm.cell (p := ⟨bx, _, none⟩) hbxl).trans d7, (hbm.cell (p := ⟨bx, _, none⟩) hbxl).trans d8⟩
              clear hK K
              refine wpAnyS_take (i := 12) (v := .pointer (some ⟨g, i * 7, none⟩)) _ rfl (by kernel_rfl) (by kernel_rfl) (by kernel_rfl) (by kernel_rfl) (by kernel_rfl) rfl (fun _ _ _ h => h) (Or.inl ⟨by rfl, ?_⟩) hHeld (fun hHeld => ?_)
              · (intro w1 hSw; have hSw := hSw.1; (try dsimp only at hSw); go_simp)
              simp only [List.getElem_toArray, List.getElem_cons_succ, List.getElem_cons_zero, Act.put, List.setIfInBounds_toArray, List.set_cons_zero, List.set_cons_succ]
              refine wpAnyS_take (i := 13) (v := .pointer (some ⟨g, i * 7 + 1, none⟩)) _ rfl (by kernel_rfl) (by kernel_rfl) (by kernel_rfl) (by kernel_rfl) (by kernel_rfl) rfl (fun _ _ _ h => h) (Or.inl ⟨by rfl, ?_⟩) hHeld (fun hHeld => ?_)
              · (intro w1 hSw; have hSw := hSw.1; (try dsimp only at hSw); go_simp)
              simp only [List.getElem_toArray, List.getElem_cons_succ, List.getElem_cons_zero, Act.put, List.setIfInBounds_toArray, List.set_cons_zero, List.set_cons_succ]
              have HCm : Hid (FoI R wm its w1 k xs (.slice (some ⟨g, 0, none⟩) xs.length cap') wm') := HCr.out.below hbm
              have hcm := (hbm.block _ hgl2).trans HRX.out
              have hfit : i * 7 + 1 + 6 ≤ rx.size := by
                rcases HCr.out.r.2 with ⟨q, _⟩ | ⟨g', c', cur0, q, _, hw, hc1, _, hs, _⟩
                · simp at q
                · simp at q
                  obtain ⟨rfl, rfl⟩ := q
                  have e9 := HRX.out
                  rw [hw] at e9
                  simp at e9
                  subst e9
                  omega
              refine wpAnyS_ready (i := 14) (by kernel_rfl) rfl (fun K hK => ?_)
              rw [if_pos (by rfl)]
              refine wp_storeN _ _ _ rfl g (i * 7 + 1) (a6 (mrg Y.a X.a)) rfl rfl rx _ hcm hfit (by kernel_rfl) (by kernel_rfl) (fun W0 hW0 => ?_)
              refine hK.out _ _ ⟨?_, fun hno => absurd hno (by decide)⟩ (fun hHeld => ?_)
              · trivial
              clear hK K
              refine wpAnyS_done (by kernel_rfl) ?_ _
              refine NoPanic.normal ?_
              have HN8 : Hid (FoI R wm its w1 (k + 1) (xs.set i ⟨Y.kv, Y.k, mrg Y.a X.a⟩) (.slice (some ⟨g, 0, none⟩) xs.length cap') W0) := HMO.out wm' W0 rx HCm.out H3.out hcm hW0
              clear hW0 hbm hbm0 c0 c1 c2 c3 c4 c5 c6 d3 d4 d5 d6 d7 d8 hcm hfit
              go_wp2_with fail
              go_roundw
              case rel => exact ⟨k + 1, _, by go_num, by omega, HN8⟩
              case measure => simp [intOf]; omega
            · have hc0 : (cc == 0) = false := by rw [HCC.out, beq_eq_false_iff_ne]; exact fun h => h3 (cmp_zero h)
              by_cases h4 : ltK Y.k K
              · have hc1 : cc < 0 := by rw [HCC.out]; unfold ltK at h4; rw [h4]; decide
                have HAH : Hid (i + 1 = 0 ∨ ∃ (h0 : i + 1 - 1 < xs.length), ltK xs[i + 1 - 1].k K) := HLO.out h4
                clear h3 h4
                go_wp2_with fail
                refine (cmp_any _ _ Y.k K _ HKR.out HOr0.out).mono ?_
                rw [← HCC.out]
                rintro e w7 ⟨rfl, hw7⟩
                rw [hw7]
                clear hw7 w7 c0 c1 c2 c3 c4 c5 c6
                have HOr : Hid (Own wr w1.heap.size (.slice sk kn ck) K) := HO5.out.below HWr.out
                have HVB : Hid ((Value.slice (some ⟨g, 0, none⟩) xs.length cap').ownBlock ≠ some wr.heap.size) := fun e => by have := (World.ownsRow.lt HCr.out.r _ e).2; omega
                have d3 := (cell_row HXr.out 3 (by simp)).1
                have d4 := (cell_row HXr.out 4 (by simp)).1
                have d5 := (cell_row HXr.out 5 (by simp)).1
                have d6 := (cell_row HXr.out 6 (by simp)).1
                have d7 := (cell_row HXr.out 7 (by simp)).1
                have d8 := (cell_row HXr.out 8 (by simp)).1
                simp only [List.getElem_toArray, List.getElem_cons_zero, List.getElem_cons_succ] at d3 d4 d5 d6 d7 d8
                obtain ⟨w7, HW7⟩ := hid_ex (wr.alloc (.cells #[.slice sk kn ck, .int .u64 X.a.c, .bool X.a.o, .int .i64 (hi X.a.s), .int .u64 (lo X.a.s), .int .i64 X.a.mn, .int .i64 X.a.mx] 59))
                have hb7 : Below wr.heap.size wr w7 := by rw [HW7.out]; exact new_below _ _
                have HC7 : Hid (FoI R wm its w1 k xs (Value.slice (some ⟨g, 0, none⟩) xs.length cap') w7) := HCr.out.below hb7
                have HN7 : Hid (w7.heap[wr.heap.size]? = some (.cells (c7 ⟨.slice sk kn ck, K, X.a⟩).toArray 59)) := by rw [HW7.out]; exact heap_alloc_new _ _
                have HLE : Hid (w1.heap.size ≤ w7.heap.size) := HC7.out.b.size
                have HKO : Hid (∀ x ∈ xs, x.kv.oneCell' = true) := fun x hx => own_one (HCr.out.ks x hx)
                clear hb7
                go_wp2_with fail
                rw [← HW7.out]
                refine (insert_any (Value.slice (some ⟨g, 0, none⟩) xs.length cap') xs (i + 1) ⟨.slice sk kn ck, K, X.a⟩ _ w1.heap.size wr.heap.size HC7.out.r (by have := HXL.out; omega) hj HLE.out HVB.out HKO.out rfl HN7.out).mono ?_
                rintro e w8 ⟨v8, rfl, hown8, hg8⟩
                have HN8 : Hid (FoI R wm its w1 (k + 1) (insE xs (i + 1) ⟨.slice sk kn ck, K, X.a⟩) v8 w8) := HPUT.out wr w8 (Value.slice (some ⟨g, 0, none⟩) xs.length cap') v8 _ (i + 1) _ K HCr.out HNX.out hj HBh.out HAH.out HOr.out ⟨v8, rfl, hown8, by rw [← HW7.out]; exact hg8⟩
                clear hown8 hg8 d3 d4 d5 d6 d7 d8 HW7
                go_wp2_with fail
                go_roundw
                case rel => exact ⟨k + 1, _, by go_num, by omega, HN8⟩
                case measure => simp [intOf]; omega
              · have hc1 : ¬ cc < 0 := by rw [HCC.out]; have := cmp_ge.2 h4; omega
                have HBh2 : Hid (Behind xs i K) := HST.out (by rcases not_ltK.1 h4 with h | h; exact absurd h h3; exact h)
                clear h3 h4
                go_wp2_with fail
                refine (cmp_any _ _ Y.k K _ HKR.out HOr0.out).mono ?_
                rw [← HCC.out]
                rintro e w7 ⟨rfl, hw7⟩
                rw [hw7]
                clear hw7 w7
                clear c0 c1 c2 c3 c4 c5 c6
                go_wp2_with fail
                go_roundw
                case rel => exact ⟨i, by go_num, by omega, HBh2, HWr⟩
                case measure => simp [intOf]
    · obtain rfl : k = its.length := by omega
      have HE2 : Hid (FdPost R wm its w (.returned u7) wr) := HEnd.out _ _ _ HC.out
      go_wp2_with fail
      rw [Exit.noGoto_ret]
      go_ret
      exact HE2.out
end Go.Proofs.Ytbadjigfcncfcaa

/- The contract of fold.Fold; of law15's Great. -/
namespace Go.Proofs.Ytbadjigfcncfcaa
open Go.RowKit

/-- What Fold tells. -/
def FoPost (R : Rl) (wm : Int) (L : List En) (w : World) (e : Ending) (w' : World) : Prop :=
  Below w.heap.size w w' ∧ ((chkF R wm L ≠ 0 ∧ e = .returned (.tuple #[.slice none 0 0, .int .i64 (chkF R wm L)])) ∨ (chkF R wm L = 0 ∧ ∃ v, e = .returned (.tuple #[v, .int .i64 0]) ∧ EReads w' v (foldF R wm L)))
set_option maxRecDepth 100000 in
set_option maxHeartbeats 4000000 in
theorem fold_any (R : Rl) (wm : Int) (v : Value) (L : List En) (w : World) (hL : Lies R w.heap.size w) (hE : EReads w v L) (hl : L.length ≤ 100000) (hk : ∀ x ∈ L, x.1.length ≤ 1000) :
    Calls Try.prog 15 #[.agg #[.slice R.a R.len R.cap, .int .i64 R.kp], .int .i64 wm, v] w (FoPost R wm L w) := by
  have HE : Hid (EReads w v L) := hE
  have HL : Hid (Lies R w.heap.size w) := hL
  have HK : Hid _ := hk
  obtain ⟨a, cap, rfl, hm1, hm2⟩ := hE.form
  unfold maxLen at hm2
  clear hE hL hk
  obtain ⟨w1, HW1⟩ := hid_ex (w.alloc (.cells #[.slice R.a R.len R.cap, .int .i64 R.kp] 33))
  have hb1 : Below w.heap.size w w1 := by rw [HW1.out]; exact new_below _ _
  have HX1 : Hid (RBox R w.heap.size w1) := by rw [HW1.out]; exact RBox.new R w _
  have HL1 : Hid (Lies R w1.heap.size w1) := HL.out.at hb1
  have HE1 : Hid (EReads w1 (.slice a L.length cap) L) := HE.out.below hb1
  have HB1 : Hid _ := hb1
  clear hb1
  go_enter Try.func15, Try.ntmps15
  go_wp2_with fail
  rw [← HW1.out]
  clear HW1
  refine (checked_any R wm _ L _ HL1.out HE1.out hl HK.out).mono ?_
  rintro e w2 ⟨hb2, ⟨hne, rfl⟩ | ⟨hz, xa, xc, xs, rfl, ht, hm, hok⟩⟩
  · have hb0 : (chkF R wm L == 0) = false := by simp [hne]
    have HEnd : Hid (FoPost R wm L w (.returned (.tuple #[.slice none 0 0, .int .i64 (chkF R wm L)])) w2) := ⟨HB1.out.trans (hb2.mono HB1.out.size), .inl ⟨hne, rfl⟩⟩
    clear hne hb2
    generalize chkF R wm L = rr at *
    go_wp2_with fail
    go_ret2
    exact HEnd.out
  · obtain ⟨_, hR, hwt, _, _⟩ := chkF_ok hz
    have HZ : Hid (chkF R wm L = 0) := hz
    have HM : Hid (xs.map itE = L) := hm
    have HB2 : Hid (Below w.heap.size w w2) := HB1.out.trans (hb2.mono HB1.out.size)
    have HX2 : Hid (RBox R w.heap.size w2) := HX1.out.below hb2
    have HT : Hid (TReads w2 (.slice xa L.length xc) xs) := ht
    have hxl : xs.length ≤ 100000 := by have h := congrArg List.length hm; simp at h; omega
    have HOK : Hid _ := hok
    have HR : Hid (RightP R) := hR
    have HL2 : Hid (Lies R w2.heap.size w2) := HL.out.at HB2.out
    obtain ⟨r0, r1⟩ := HX2.out.at
    clear hz hb2 ht hm hok hR HB1 HX1 HL1 HE1
    go_wp2_with fail
    refine (folded_any R HR.out wm hwt _ xs _ HL2.out HT.out HOK.out hxl).mono ?_
    rintro e w3 ⟨v', ys, rfl, ho, hm3, hc3, hb3⟩
    have hrd := ho.reads hc3
    rw [hm3, HM.out] at hrd
    have HEnd : Hid (FoPost R wm L w (.returned (.tuple #[v', .int .i64 0])) w3) := ⟨HB2.out.trans (hb3.mono HB2.out.size), .inr ⟨HZ.out, v', rfl, hrd⟩⟩
    obtain ⟨ya, yc, rfl, _⟩ := hrd.form
    clear ho hm3 hc3 hb3 hrd r0 r1
    go_wp2_with fail
    go_ret2
    exact HEnd.out
def okRow15 (r : List En) : Prop := r.length ≤ 60 ∧ ∀ x ∈ r, x.1.length ≤ 300
def Gt15 (L : List En) (w : World) (e : Ending) (w' : World) : Prop := ∃ g : Bool, e = .returned (.bool g) ∧ (g = false → okRow15 L) ∧ w' = w
set_option maxRecDepth 100000 in
set_option maxHeartbeats 2000000 in
theorem great15_any (v : Value) (L : List En) (w : World) (hE : EReads w v L) : Calls Try.prog 13 #[v] w (Gt15 L w) := by
  have HE : Hid (EReads w v L) := hE
  obtain ⟨a, cap, rfl, hm1, hm2⟩ := hE.form
  unfold maxLen at hm2
  clear hE
  by_cases h60 : L.length ≤ 60
  · go_enter Try.func13, Try.ntmps13
    go_wp2_with fail
    go_loopw [3] (fun i wr => ∃ k : Nat, ∃ hk : k ≤ L.length, i = .int .i64 (k : Int) ∧ Hid (∀ j (hj : j < k), (L[j]'(by omega)).1.length ≤ 300) ∧ Hid (wr = w)) (fun i _ => L.length - (intOf i).toNat)
    case atStart => exact ⟨0, by omega, rfl, fun j hj => by omega, rfl⟩
    case round =>
      obtain ⟨k, hk, rfl, HJ, HW⟩ := hrel
      obtain rfl := HW.out
      clear HW
      by_cases hlt : k < L.length
      · obtain ⟨b, off, sa, sc, hef, hcm⟩ := eReads_key HE.out hlt
        subst hef
        have HNJ : Hid (L[k].1.length ≤ 300 → ∀ j (hj : j < k + 1), (L[j]'(by omega)).1.length ≤ 300) := fun h0 j hj => by
          rcases Nat.lt_or_ge j k with h1 | h1
          · exact HJ.out j h1
          · obtain rfl : j = k := by omega
            exact h0
        obtain ⟨X, HX⟩ := hid_ex L[k].1.length
        rw [← HX.out] at hcm HNJ
        by_cases h300 : X ≤ 300
        · have HN2 : Hid _ := HNJ.out h300
          clear HX
          go_wp2_with fail
          go_roundw
          case rel => exact ⟨k + 1, by omega, by go_num, HN2, trivial⟩
          case measure => simp [intOf]; omega
        · clear HX
          go_wp2_with fail
          go_ret
          exact ⟨true, rfl, fun h => (by cases h), rfl⟩
      · obtain rfl : k = L.length := by omega
        go_wp2_with fail
        go_ret
        refine ⟨false, rfl, fun _ => ⟨h60, fun x hx => ?_⟩, rfl⟩
        obtain ⟨j, hj, rfl⟩ := List.getElem_of_mem hx
        exact HJ.out j hj
  · go_enter Try.func13, Try.ntmps13
    go_wp2_with fail
    go_ret
    exact ⟨true, rfl, fun h => (by cases h), rfl⟩
end Go.Proofs.Ytbadjigfcncfcaa

/- Items of one's own; the contract of fold.order. -/
namespace Go.Proofs.Ytbadjigfcncfcaa
open Go.RowKit

def itK (x : It) : Ky := ⟨x.v, x.D, x.f, (x.g : Int)⟩
/-- An item as a value. -/
def itV (x : It) : Value := .agg #[x.v, .int .i64 x.f, .int .i64 (x.g : Int), .int .u64 x.a.c, .bool x.a.o, .int .i64 (hi x.a.s), .int .u64 (lo x.a.s), .int .i64 x.a.mn, .int .i64 x.a.mx]
/-- The numbers of an item are in their reach. -/
structure ItB (x : It) : Prop where
  f1 : -9223372036854775808 ≤ x.f
  f2 : x.f ≤ 9223372036854775807
  g2 : (x.g : Int) ≤ 9223372036854775807
theorem itK_lies {x : It} {w : World} (h : SReads w x.v x.D) (hb : ItB x) : KLies (itK x) w := ⟨h, hb.f1, hb.f2, by show (-9223372036854775808 : Int) ≤ (x.g : Int); omega, hb.g2⟩
def OdPost (w : World) (e : Ending) (w' : World) : Prop := ∃ c : Int, e = .returned (.int .i64 c) ∧ -1 ≤ c ∧ c ≤ 1 ∧ Below w.heap.size w w'
theorem nine_box {w : World} {a b : List Value} {t : TypeId} : ((w.alloc (.cells a.toArray t)).alloc (.cells b.toArray t)).heap[w.heap.size]? = some (.cells a.toArray t) ∧ ((w.alloc (.cells a.toArray t)).alloc (.cells b.toArray t)).heap[w.heap.size + 1]? = some (.cells b.toArray t) := by
  constructor
  · rw [Below.heap_alloc _ _ _ (by simp)]; exact heap_alloc_new _ _
  · have := heap_alloc_new (w.alloc (.cells a.toArray t)) (.cells b.toArray t)
    simpa using this
set_option maxRecDepth 100000 in
set_option maxHeartbeats 2000000 in
theorem order15_any (x y : It) (w : World) (hx : SReads w x.v x.D) (hy : SReads w y.v y.D) (bx : ItB x) (by' : ItB y) :
    Calls Try.prog 36 #[itV x, itV y] w (OdPost w) := by
  obtain ⟨xa, xc, hxv, _⟩ := hx.form
  obtain ⟨ya, yc, hyv, _⟩ := hy.form
  obtain ⟨w2, HW2⟩ := hid_ex ((w.alloc (.cells (c9 x).toArray 75)).alloc (.cells (c9 y).toArray 75))
  have HB2 : Hid (Below w.heap.size w w2) := by rw [HW2.out]; exact ((Below.refl _ _).alloc (Nat.le_refl _) _).alloc (by simp) _
  have HKX : Hid (∀ W, Below w2.heap.size w2 W → KLies (itK x) W) := fun W hW => itK_lies (hx.below (HB2.out.trans (hW.mono HB2.out.size))) bx
  have HKY : Hid (∀ W, Below w2.heap.size w2 W → KLies (itK y) W) := fun W hW => itK_lies (hy.below (HB2.out.trans (hW.mono HB2.out.size))) by'
  obtain ⟨q1, q2⟩ := nine_box (w := w) (a := c9 x) (b := c9 y) (t := 75)
  rw [← HW2.out] at q1 q2
  have HCX : Hid (∀ W, Below w2.heap.size w2 W → W.cell? ⟨w.heap.size, 0, none⟩ = some x.v ∧ W.cell? ⟨w.heap.size, 1, none⟩ = some (.int .i64 x.f) ∧ W.cell? ⟨w.heap.size, 2, none⟩ = some (.int .i64 (x.g : Int)) ∧ W.cell? ⟨w.heap.size + 1, 0, none⟩ = some y.v ∧ W.cell? ⟨w.heap.size + 1, 1, none⟩ = some (.int .i64 y.f) ∧ W.cell? ⟨w.heap.size + 1, 2, none⟩ = some (.int .i64 (y.g : Int))) := fun W hW => by
    have p1 := (hW.block _ (Array.getElem?_eq_some_iff.1 q1).1).trans q1
    have p2 := (hW.block _ (Array.getElem?_eq_some_iff.1 q2).1).trans q2
    refine ⟨by rw [Go.Joins.cell_of_block p1]; rfl, by rw [Go.Joins.cell_of_block p1]; rfl, by rw [Go.Joins.cell_of_block p1]; rfl, by rw [Go.Joins.cell_of_block p2]; rfl, by rw [Go.Joins.cell_of_block p2]; rfl, by rw [Go.Joins.cell_of_block p2]; rfl⟩
  have HLS : Hid (∀ W, Below w2.heap.size w2 W → Calls Try.prog 62 #[.agg #[x.v, .int .i64 x.f, .int .i64 (x.g : Int)], .agg #[y.v, .int .i64 y.f, .int .i64 (y.g : Int)]] W fun e w' => e = .returned (.bool (lessK (itK x) (itK y))) ∧ Below W.heap.size W w') := fun W hW => less_any (itK x) (itK y) W (HKX.out W hW) (HKY.out W hW)
  have HLT : Hid (∀ W, Below w2.heap.size w2 W → Calls Try.prog 62 #[.agg #[y.v, .int .i64 y.f, .int .i64 (y.g : Int)], .agg #[x.v, .int .i64 x.f, .int .i64 (x.g : Int)]] W fun e w' => e = .returned (.bool (lessK (itK y) (itK x))) ∧ Below W.heap.size W w') := fun W hW => less_any (itK y) (itK x) W (HKY.out W hW) (HKX.out W hW)
  obtain ⟨b1, Hb1⟩ := hid_ex (lessK (itK x) (itK y))
  obtain ⟨b2, Hb2⟩ := hid_ex (lessK (itK y) (itK x))
  rw [← Hb1.out] at HLS
  rw [← Hb2.out] at HLT
  obtain ⟨d0, d1, d2, d3, d4, d5⟩ := HCX.out w2 (Below.refl _ _)
  have HW2' : Hid ((w.alloc (.cells #[x.v, .int .i64 x.f, .int .i64 (x.g : Int), .int .u64 x.a.c, .bool x.a.o, .int .i64 (hi x.a.s), .int .u64 (lo x.a.s), .int .i64 x.a.mn, .int .i64 x.a.mx] 75)).alloc (.cells #[y.v, .int .i64 y.f, .int .i64 (y.g : Int), .int .u64 y.a.c, .bool y.a.o, .int .i64 (hi y.a.s), .int .u64 (lo y.a.s), .int .i64 y.a.mn, .int .i64 y.a.mx] 75) = w2) := HW2.out.symm
  unfold itV
  rw [hxv] at HCX HLS HLT HW2' d0 ⊢
  rw [hyv] at HCX HLS HLT HW2' d3 ⊢
  obtain ⟨xn, Hxn⟩ := hid_ex x.D.length
  obtain ⟨yn, Hyn⟩ := hid_ex y.D.length
  rw [← Hxn.out] at HCX HLS HLT HW2' d0 ⊢
  rw [← Hyn.out] at HCX HLS HLT HW2' d3 ⊢
  clear hx hy bx by' q1 q2 HKX HKY hxv hyv HW2 Hb1 Hb2
  go_enter Try.func36, Try.ntmps36
  go_wp2_with (rw [HW2'.out])
  refine (HLS.out _ (Below.refl _ _)).mono ?_
  rintro e w3 ⟨rfl, hb3⟩
  have HB3 : Hid (Below w2.heap.size w2 w3) := hb3
  clear d0 d1 d2 d3 d4 d5 hb3
  obtain ⟨d0, d1, d2, d3, d4, d5⟩ := HCX.out w3 HB3.out
  have HEnd : Hid (∀ c W, -1 ≤ c → c ≤ 1 → Below w2.heap.size w2 W → OdPost w (.returned (.int .i64 c)) W) := fun c W h1 h2 hW => ⟨c, rfl, h1, h2, HB2.out.trans (hW.mono HB2.out.size)⟩
  cases b1 with
  | true =>
    have HE : Hid (OdPost w (.returned (.int .i64 (-1))) w3) := HEnd.out _ _ (by decide) (by decide) HB3.out
    go_wp2_with fail
    go_ret
    exact HE.out
  | false =>
    go_wp2_with fail
    refine (HLT.out _ HB3.out).mono ?_
    rintro e w4 ⟨rfl, hb4⟩
    have HB4 : Hid (Below w2.heap.size w2 w4) := HB3.out.trans (hb4.mono HB3.out.size)
    clear d0 d1 d2 d3 d4 d5 hb4
    cases b2 with
    | true =>
      have HE : Hid (OdPost w (.returned (.int .i64 1)) w4) := HEnd.out _ _ (by decide) (by decide) HB4.out
      go_wp2_with fail
      go_ret
      exact HE.out
    | false =>
      have HE : Hid (OdPost w (.returned (.int .i64 0)) w4) := HEnd.out _ _ (by decide) (by decide) HB4.out
      go_wp2_with fail
      go_ret
      exact HE.out
/-- A row of items of one's own, in some order. -/
structure PmI (w : World) (base g n cap : Nat) (its0 its : List It) (W : World) : Prop where
  p : its.Perm its0
  r : W.ownsRow base 75 9 (.slice (some ⟨g, 0, none⟩) n cap) n (its.flatMap c9)
  s : ∀ x ∈ its, SReads W x.v x.D ∧ (0 < x.D.length → ∀ b, x.v.ownBlock = some b → b ≠ g) ∧ ItB x
  b : Below base w W
theorem PmI.len {w : World} {base g n cap : Nat} {its0 its : List It} {W : World} (h : PmI w base g n cap its0 its W) : its.length = n := by
  have := h.r.1
  rw [flat9_len] at this
  omega
theorem PmI.below {w : World} {base g n cap : Nat} {its0 its : List It} {W V : World} (h : PmI w base g n cap its0 its W) (hb : Below W.heap.size W V) : PmI w base g n cap its0 its V :=
  ⟨h.p, row_below h.r hb, fun x hx => ⟨(h.s x hx).1.below hb, (h.s x hx).2⟩, h.b.trans (hb.mono (by
    have h1 := (World.ownsRow.lt h.r g rfl)
    omega))⟩
theorem PmI.cells {w : World} {base g n cap : Nat} {its0 its : List It} {W : World} (h : PmI w base g n cap its0 its W) {j : Nat} (hj : j < its.length) {i : Nat} (hi : i < 9) : W.cell? ⟨g, j * 9 + i, none⟩ = some ((c9 its[j])[i]'hi) := by
  have hl := h.len
  rw [World.ownsRow.cellAt h.r _ (by omega), show j * 9 + i = 9 * j + i by omega, flat9 its j i hj hi, List.getElem?_eq_getElem (show i < (c9 its[j]).length from hi)]
  rfl
theorem row_set9 {w W : World} {base g n cap k : Nat} {cur : Array Value} {ys : List It} {y : It} (h : w.ownsRow base 75 9 (.slice (some ⟨g, 0, none⟩) n cap) n (ys.flatMap c9)) (hcur : w.heap[g]? = some (.cells cur 75))
    (hW : StW w W g (k * 9) cur 75 (c9 y)) (hn : ys.length = n) : W.ownsRow base 75 9 (.slice (some ⟨g, 0, none⟩) n cap) n ((ys.set k y).flatMap c9) := by
  obtain ⟨h1, h2⟩ := h
  refine ⟨by rw [flat9_len, List.length_set, hn], ?_⟩
  rcases h2 with ⟨h2, _⟩ | ⟨g', cap', cur0, hv, hg, hw, hc, hx, hs, ht⟩
  · simp at h2
  · have hv' := hv
    simp at hv'
    obtain ⟨rfl, rfl⟩ := hv'
    obtain rfl : cur0 = cur := by rw [hw] at hcur; simpa using hcur
    obtain ⟨cur', k1, k2, k3, k4⟩ := hW.c
    refine .inr ⟨g, cap, cur', rfl, hg, k1, hc, hx, by omega, ?_⟩
    apply List.ext_getElem?
    intro j
    rw [List.getElem?_take]
    by_cases hj : j < n * 9
    · rw [if_pos hj, Array.getElem?_toList]
      have hj7 : j / 9 < (ys.set k y).length := by simp; omega
      have e1 := flat9 (ys.set k y) (j / 9) (j % 9) hj7 (by omega)
      rw [show 9 * (j / 9) + j % 9 = j by omega] at e1
      rw [e1]
      by_cases hjk : j / 9 = k
      · have e2 : (ys.set k y)[j / 9]'hj7 = y := by simp [hjk]
        rw [e2]
        have := k4 (j % 9) (by rw [c9_len]; omega)
        rw [show k * 9 + j % 9 = j by omega] at this
        rw [this, List.getElem?_eq_getElem]
      · rw [k3 j (by rw [c9_len]; omega)]
        have e2 : (ys.set k y)[j / 9]'hj7 = ys[j / 9]'(by simpa using hj7) := by
          rw [List.getElem_set]; rw [if_neg (fun e => hjk e.symm)]
        rw [e2]
        have e3 := flat9 ys (j / 9) (j % 9) (by simpa using hj7) (by omega)
        rw [show 9 * (j / 9) + j % 9 = j by omega] at e3
        rw [← e3, ← ht, List.getElem?_take, if_pos hj, Array.getElem?_toList]
    · rw [if_neg hj, List.getElem?_eq_none (by rw [flat9_len, List.length_set]; omega)]
theorem sreads_stW {w W : World} {g off : Nat} {cur : Array Value} {T : TypeId} {vs : List Value} {v : Value} {D : List ByteArray} (h : SReads w v D) (hW : StW w W g off cur T vs) (hne : 0 < D.length → ∀ b, v.ownBlock = some b → b ≠ g) : SReads W v D := by
  rcases h with h | ⟨b, o, cap, h1, h2, h3, h4, h5, h6, h7⟩
  · exact .inl h
  · have hb := hne h2 b (by rw [h1]; rfl)
    refine .inr ⟨b, o, cap, h1, h2, h3, h4, Nat.lt_of_lt_of_le h5 (hW.b 0 (Nat.zero_le _)).size, fun j hj => ?_, h7⟩
    rw [← h6 j hj]
    exact World.cell?_of_block (hW.o b hb)
/-- Two items change places. -/
theorem PmI.swap {w : World} {base g n cap : Nat} {its0 its : List It} {A B C : World} {cur : Array Value} {i j : Nat} (h : PmI w base g n cap its0 its A) (hi : i < its.length) (hj : j < its.length) (hcur : A.heap[g]? = some (.cells cur 75)) (hB : StW A B g (i * 9) cur 75 (c9 its[j]))
    (hC : ∀ cur', B.heap[g]? = some (.cells cur' 75) → StW B C g (j * 9) cur' 75 (c9 its[i])) : PmI w base g n cap its0 ((its.set i its[j]).set j its[i]) C := by
  obtain ⟨cur', k1, k2, k3, k4⟩ := hB.c
  have hC' := hC cur' k1
  have hl := h.len
  have hgl := World.ownsRow.lt h.r g rfl
  have r1 := row_set9 h.r hcur hB hl
  have r2 := row_set9 r1 k1 hC' (by simp [hl])
  refine ⟨(List.set_set_perm hi hj).trans h.p, r2, fun x hx => ?_, (h.b.trans (hB.b _ hgl.1)).trans (hC'.b _ hgl.1)⟩
  have hm : x ∈ its := (List.set_set_perm hi hj).mem_iff.1 hx
  have hs := h.s x hm
  exact ⟨sreads_stW (sreads_stW hs.1 hB hs.2.1) hC' hs.2.1, hs.2⟩
end Go.Proofs.Ytbadjigfcncfcaa

/- The contract of slices.insertionSortCmpFunc of items. -/
namespace Go.Proofs.Ytbadjigfcncfcaa
open Go.RowKit Go.Shelf

theorem eg_order : ∀ args w, (callFunc 36 args).run Try.prog w = .ok (.enter 36 args) w := enters_of Try.func36 (by kernel_rfl) rfl
def IsPost (w : World) (base g n cap : Nat) (its0 : List It) (e : Ending) (W : World) : Prop := (∃ v, e = .returned v) ∧ ∃ its, PmI w base g n cap its0 its W
theorem stW_any {A : World} {g : Nat} {cur cur' : Array Value} {T : TypeId} {off : Nat} {vs : List Value} {C : World} (h1 : A.heap[g]? = some (.cells cur T)) (h2 : A.heap[g]? = some (.cells cur' T)) (h : StW A C g off cur T vs) : StW A C g off cur' T vs := by
  rw [h1] at h2
  simp at h2
  subst h2
  exact h
theorem pmI_row {w : World} {base g n cap : Nat} {its0 its : List It} {W : World} (h : PmI w base g n cap its0 its W) : ∃ cur, W.heap[g]? = some (.cells cur 75) ∧ n * 9 ≤ cur.size := by
  rcases h.r.2 with ⟨q, _⟩ | ⟨g', c', cur0, q, _, hw, hc1, _, hs, _⟩
  · simp at q
  · simp at q
    obtain ⟨rfl, rfl⟩ := q
    exact ⟨cur0, hw, by omega⟩
set_option maxRecDepth 100000 in
set_option maxHeartbeats 8000000 in
theorem insSort_any (w : World) (base g n cap : Nat) (its0 its : List It) (W : World) (h : PmI w base g n cap its0 its W) (hn : n ≤ 100000) (a b : Nat) (ha : a ≤ n) (hb : b ≤ n) :
    Calls Try.prog 75 #[.slice (some ⟨g, 0, none⟩) n cap, .int .i64 (a : Int), .int .i64 (b : Int), .func (.func 36) #[] #[]] W (IsPost w base g n cap its0) := by
  have HI0 : Hid (PmI w base g n cap its0 its W) := h
  have hcapm : n ≤ cap ∧ cap ≤ maxLen := by
    rcases h.r.2 with ⟨q, _⟩ | ⟨g', c', cur0, q, _, hw, hc1, hm, hs, _⟩
    · simp at q
    · simp at q
      obtain ⟨rfl, rfl⟩ := q
      exact ⟨hc1, hm⟩
  unfold maxLen at hcapm
  have eg := eg_order
  clear h
  go_enter Try.func75, Try.ntmps75
  go_wp2_with fail
  go_loopw [8] (fun i wr => ∃ (k : Nat) (l : List It), i = .int .i64 (k : Int) ∧ a < k ∧ k ≤ 200000 ∧ Hid (PmI w base g n cap its0 l wr)) (fun i _ => b - (intOf i).toNat)
  case atStart => exact ⟨a + 1, its, by go_num, by omega, by omega, HI0⟩
  case round =>
    clear HI0
    obtain ⟨k, l, rfl, hk, hk2, HI⟩ := hrel
    by_cases hlt : k < b
    · go_wp2_with fail
      go_loopw [9] (fun jv wq => ∃ (j : Nat) (l : List It), jv = .int .i64 (j : Int) ∧ a ≤ j ∧ j < b ∧ Hid (PmI w base g n cap its0 l wq)) (fun jv _ => (intOf jv).toNat)
      case atStart => exact ⟨k, l, rfl, by omega, hlt, HI⟩
      case round =>
        clear HI
        obtain ⟨j, l, rfl, hj1, hj2, HI⟩ := hrel
        by_cases hja : a < j
        · have hll := HI.out.len
          obtain ⟨i, rfl⟩ : ∃ i, j = i + 1 := ⟨j - 1, by omega⟩
          have hi0 : i < l.length := by omega
          have hi1 : i + 1 < l.length := by omega
          have cA := fun t (ht : t < 9) => HI.out.cells hi1 ht
          have cB := fun t (ht : t < 9) => HI.out.cells hi0 ht
          have sA := HI.out.s l[i + 1] (List.getElem_mem hi1)
          have sB := HI.out.s l[i] (List.getElem_mem hi0)
          have HSW : Hid (∀ (A B C : World) (cur : Array Value), PmI w base g n cap its0 l A → A.heap[g]? = some (.cells cur 75) → StW A B g ((i + 1) * 9) cur 75 (c9 l[i]) → (∀ cur', B.heap[g]? = some (.cells cur' 75) → StW B C g (i * 9) cur' 75 (c9 l[i + 1])) → ∃ l', PmI w base g n cap its0 l' C) := fun A B C cur h1 h2 h3 h4 => ⟨_, h1.swap hi1 hi0 h2 h3 h4⟩
          obtain ⟨P, HP⟩ := hid_ex (l[i + 1]'hi1)
          obtain ⟨Q, HQ⟩ := hid_ex (l[i]'hi0)
          rw [← HP.out] at cA sA HSW
          rw [← HQ.out] at cB sB HSW
          have HOD : Hid (∀ V, Below wr.heap.size wr V → Calls Try.prog 36 #[itV P, itV Q] V (OdPost V)) := fun V hV => order15_any P Q V (sA.1.below hV) (sB.1.below hV) sA.2.2 sB.2.2
          obtain ⟨pa, pc, hpv, _⟩ := sA.1.form
          obtain ⟨qa, qc, hqv, _⟩ := sB.1.form
          obtain ⟨pn, Hpn⟩ := hid_ex P.D.length
          obtain ⟨qn, Hqn⟩ := hid_ex Q.D.length
          rw [← Hpn.out] at hpv
          rw [← Hqn.out] at hqv
          unfold itV at HOD
          rw [hpv, hqv] at HOD
          have HCA : Hid (∀ V, Below wr.heap.size wr V → V.cell? ⟨g, (i + 1) * 9, none⟩ = some (.slice pa pn pc) ∧ V.cell? ⟨g, (i + 1) * 9 + 1, none⟩ = some (.int .i64 P.f) ∧ V.cell? ⟨g, (i + 1) * 9 + 2, none⟩ = some (.int .i64 (P.g : Int)) ∧ V.cell? ⟨g, (i + 1) * 9 + 3, none⟩ = some (.int .u64 P.a.c) ∧ V.cell? ⟨g, (i + 1) * 9 + 4, none⟩ = some (.bool P.a.o) ∧ V.cell? ⟨g, (i + 1) * 9 + 5, none⟩ = some (.int .i64 (hi P.a.s)) ∧ V.cell? ⟨g, (i + 1) * 9 + 6, none⟩ = some (.int .u64 (lo P.a.s)) ∧ V.cell? ⟨g, (i + 1) * 9 + 7, none⟩ = some (.int .i64 P.a.mn) ∧ V.cell? ⟨g, (i + 1) * 9 + 8, none⟩ = some (.int .i64 P.a.mx)) := fun V hV => by
            have hgl : g < wr.heap.size := (World.ownsRow.lt HI.out.r g rfl).2
            have q := fun t (ht : t < 9) => (hV.cell (p := ⟨g, (i + 1) * 9 + t, none⟩) hgl).trans (cA t ht)
            have q0 := q 0 (by decide)
            simp only [c9, List.getElem_cons_zero, Nat.add_zero] at q0
            rw [hpv] at q0
            exact ⟨q0, q 1 (by decide), q 2 (by decide), q 3 (by decide), q 4 (by decide), q 5 (by decide), q 6 (by decide), q 7 (by decide), q 8 (by decide)⟩
          have HCB : Hid (∀ V, Below wr.heap.size wr V → V.cell? ⟨g, i * 9, none⟩ = some (.slice qa qn qc) ∧ V.cell? ⟨g, i * 9 + 1, none⟩ = some (.int .i64 Q.f) ∧ V.cell? ⟨g, i * 9 + 2, none⟩ = some (.int .i64 (Q.g : Int)) ∧ V.cell? ⟨g, i * 9 + 3, none⟩ = some (.int .u64 Q.a.c) ∧ V.cell? ⟨g, i * 9 + 4, none⟩ = some (.bool Q.a.o) ∧ V.cell? ⟨g, i * 9 + 5, none⟩ = some (.int .i64 (hi Q.a.s)) ∧ V.cell? ⟨g, i * 9 + 6, none⟩ = some (.int .u64 (lo Q.a.s)) ∧ V.cell? ⟨g, i * 9 + 7, none⟩ = some (.int .i64 Q.a.mn) ∧ V.cell? ⟨g, i * 9 + 8, none⟩ = some (.int .i64 Q.a.mx)) := fun V hV => by
            have hgl : g < wr.heap.size := (World.ownsRow.lt HI.out.r g rfl).2
            have q := fun t (ht : t < 9) => (hV.cell (p := ⟨g, i * 9 + t, none⟩) hgl).trans (cB t ht)
            have q0 := q 0 (by decide)
            simp only [c9, List.getElem_cons_zero, Nat.add_zero] at q0
            rw [hqv] at q0
            exact ⟨q0, q 1 (by decide), q 2 (by decide), q 3 (by decide), q 4 (by decide), q 5 (by decide), q 6 (by decide), q 7 (by decide), q 8 (by decide)⟩
          have HPV : Hid (c9 P = [.slice pa pn pc, .int .i64 P.f, .int .i64 (P.g : Int), .int .u64 P.a.c, .bool P.a.o, .int .i64 (hi P.a.s), .int .u64 (lo P.a.s), .int .i64 P.a.mn, .int .i64 P.a.mx]) := by unfold c9; rw [hpv]; rfl
          have HQV : Hid (c9 Q = [.slice qa qn qc, .int .i64 Q.f, .int .i64 (Q.g : Int), .int .u64 Q.a.c, .bool Q.a.o, .int .i64 (hi Q.a.s), .int .u64 (lo Q.a.s), .int .i64 Q.a.mn, .int .i64 Q.a.mx]) := by unfold c9; rw [hqv]; rfl
          have hin : i + 1 < n := by omega
          clear cA cB sA sB hpv hqv HP HQ hll hi0 hi1 Hpn Hqn
          go_wp2_with fail
          refine wp_region_noPanic ?_
          refine wp_region_held_drew (S := (fun w' => Below wr.heap.size wr w')) (by kernel_rfl) ?_ (fun hHeld => ?_)
          · exact (Below.refl _ _).drew
          refine wpAnyH_take (i := 0) (v := .int .i64 ((i : Int) + 1)) rfl (by kernel_rfl) (by kernel_rfl) (by kernel_rfl) (fun _ _ _ h => h) (Or.inl ⟨by rfl, ?_⟩) (by assumption) ?_
          · (intro w1 hSw; (try dsimp only at hSw); go_simp)
          simp only [List.getElem_toArray, List.getElem_cons_zero, Act.put, List.setIfInBounds_toArray, List.set_cons_zero, List.set_cons_succ]
          refine wpAnyH_take (i := 1) (v := .int .i64 (a : Int)) rfl (by kernel_rfl) (by kernel_rfl) (by kernel_rfl) (fun _ _ _ h => h) (Or.inl ⟨by rfl, ?_⟩) (by assumption) ?_
          · (intro w1 hSw; (try dsimp only at hSw); go_simp)
          simp only [List.getElem_toArray, List.getElem_cons_succ, List.getElem_cons_zero, Act.put, List.setIfInBounds_toArray, List.set_cons_zero, List.set_cons_succ]
          refine wpAnyH_take (i := 2) (v := .bool true) rfl (by kernel_rfl) (by kernel_rfl) (by kernel_rfl) (fun _ _ _ h => h) (Or.inl ⟨by rfl, ?_⟩) (by assumption) ?_
          · (intro w1 hSw; (try dsimp only at hSw); go_simp; omega)
          simp only [List.getElem_toArray, List.getElem_cons_succ, List.getElem_cons_zero, Act.put, List.setIfInBounds_toArray, List.set_cons_zero, List.set_cons_succ]
          refine wpAnyH_take (i := 3) (v := .bool true) rfl (by kernel_rfl) (by kernel_rfl) (by kernel_rfl) (fun _ _ _ h => h) (Or.inl ⟨by rfl, ?_⟩) (by assumption) ?_
          · (intro w1 hSw; (try dsimp only at hSw); go_simp)
          simp only [List.getElem_toArray, List.getElem_cons_succ, List.getElem_cons_zero, Act.put, List.setIfInBounds_toArray, List.set_cons_zero, List.set_cons_succ]
          refine wpAnyH_take (i := 4) (v := .func (.func 36) #[] #[]) rfl (by kernel_rfl) (by kernel_rfl) (by kernel_rfl) (fun _ _ _ h => h) (Or.inl ⟨by rfl, ?_⟩) (by assumption) ?_
          · (intro w1 hSw; (try dsimp only at hSw); go_simp)
          simp only [List.getElem_toArray, List.getElem_cons_succ, List.getElem_cons_zero, Act.put, List.setIfInBounds_toArray, List.set_cons_zero, List.set_cons_succ]
          refine wpAnyH_take (i := 5) (v := .slice (some ⟨g, 0, none⟩) n cap) rfl (by kernel_rfl) (by kernel_rfl) (by kernel_rfl) (fun _ _ _ h => h) (Or.inl ⟨by rfl, ?_⟩) (by assumption) ?_
          · (intro w1 hSw; (try dsimp only at hSw); go_simp)
          simp only [List.getElem_toArray, List.getElem_cons_succ, List.getElem_cons_zero, Act.put, List.setIfInBounds_toArray, List.set_cons_zero, List.set_cons_succ]
          refine wpAnyH_take (i := 6) (v := .int .i64 ((i : Int) + 1)) rfl (by kernel_rfl) (by kernel_rfl) (by kernel_rfl) (fun _ _ _ h => h) (Or.inl ⟨by rfl, ?_⟩) (by assumption) ?_
          · (intro w1 hSw; (try dsimp only at hSw); go_simp)
          simp only [List.getElem_toArray, List.getElem_cons_succ, List.getElem_cons_zero, Act.put, List.setIfInBounds_toArray, List.set_cons_zero, List.set_cons_succ]
          refine wpAnyH_take (i := 7) (v := .pointer (some ⟨g, (i + 1) * 9, none⟩)) rfl (by kernel_rfl) (by kernel_rfl) (by kernel_rfl) (fun _ _ _ h => h) (Or.inl ⟨by rfl, ?_⟩) (by assumption) ?_
          · (intro w1 hSw; (try dsimp only at hSw); go_simp; (intro hh; exfalso; first | omega | (have := hh (by omega); omega)))
          simp only [List.getElem_toArray, List.getElem_cons_succ, List.getElem_cons_zero, Act.put, List.setIfInBounds_toArray, List.set_cons_zero, List.set_cons_succ]
          refine wpAnyH_take (i := 8) (v := .agg #[.slice pa pn pc, .int .i64 P.f, .int .i64 (P.g : Int), .int .u64 P.a.c, .bool P.a.o, .int .i64 (hi P.a.s), .int .u64 (lo P.a.s), .int .i64 P.a.mn, .int .i64 P.a.mx]) rfl (by kernel_rfl) (by kernel_rfl) (by kernel_rfl) (fun _ _ _ h => h) (Or.inl ⟨by rfl, ?_⟩) (by assumption) ?_
          · (intro w1 hSw; (try dsimp only at hSw); obtain ⟨c0, c1, c2, c3, c4, c5, c6, c7, c8⟩ := HCA.out _ hSw; go_simp)
          simp only [List.getElem_toArray, List.getElem_cons_succ, List.getElem_cons_zero, Act.put, List.setIfInBounds_toArray, List.set_cons_zero, List.set_cons_succ]
          refine wpAnyH_take (i := 9) (v := .slice (some ⟨g, 0, none⟩) n cap) rfl (by kernel_rfl) (by kernel_rfl) (by kernel_rfl) (fun _ _ _ h => h) (Or.inl ⟨by rfl, ?_⟩) (by assumption) ?_
          · (intro w1 hSw; (try dsimp only at hSw); go_simp)
          simp only [List.getElem_toArray, List.getElem_cons_succ, List.getElem_cons_zero, Act.put, List.setIfInBounds_toArray, List.set_cons_zero, List.set_cons_succ]
          refine wpAnyH_take (i := 10) (v := .int .i64 ((i : Int) + 1)) rfl (by kernel_rfl) (by kernel_rfl) (by kernel_rfl) (fun _ _ _ h => h) (Or.inl ⟨by rfl, ?_⟩) (by assumption) ?_
          · (intro w1 hSw; (try dsimp only at hSw); go_simp)
          simp only [List.getElem_toArray, List.getElem_cons_succ, List.getElem_cons_zero, Act.put, List.setIfInBounds_toArray, List.set_cons_zero, List.set_cons_succ]
          refine wpAnyH_take (i := 11) (v := .int .i64 (i : Int)) rfl (by kernel_rfl) (by kernel_rfl) (by kernel_rfl) (fun _ _ _ h => h) (Or.inl ⟨by rfl, ?_⟩) (by assumption) ?_
          · (intro w1 hSw; (try dsimp only at hSw); go_simp; (rw [IntKind.wrap_i64]; omega))
          simp only [List.getElem_toArray, List.getElem_cons_succ, List.getElem_cons_zero, Act.put, List.setIfInBounds_toArray, List.set_cons_zero, List.set_cons_succ]
          refine wpAnyH_take (i := 12) (v := .pointer (some ⟨g, i * 9, none⟩)) rfl (by kernel_rfl) (by kernel_rfl) (by kernel_rfl) (fun _ _ _ h => h) (Or.inl ⟨by rfl, ?_⟩) (by assumption) ?_
          · (intro w1 hSw; (try dsimp only at hSw); go_simp; (intro hh; exfalso; first | omega | (have := hh (by omega); omega)))
          simp only [List.getElem_toArray, List.getElem_cons_succ, List.getElem_cons_zero, Act.put, List.setIfInBounds_toArray, List.set_cons_zero, List.set_cons_succ]
          refine wpAnyH_take (i := 13) (v := .agg #[.slice qa qn qc, .int .i64 Q.f, .int .i64 (Q.g : Int), .int .u64 Q.a.c, .bool Q.a.o, .int .i64 (hi Q.a.s), .int .u64 (lo Q.a.s), .int .i64 Q.a.mn, .int .i64 Q.a.mx]) rfl (by kernel_rfl) (by kernel_rfl) (by kernel_rfl) (fun _ _ _ h => h) (Or.inl ⟨by rfl, ?_⟩) (by assumption) ?_
          · (intro w1 hSw; (try dsimp only at hSw); obtain ⟨c0, c1, c2, c3, c4, c5, c6, c7, c8⟩ := HCB.out _ hSw; go_simp)
          simp only [List.getElem_toArray, List.getElem_cons_succ, List.getElem_cons_zero, Act.put, List.setIfInBounds_toArray, List.set_cons_zero, List.set_cons_succ]
          refine wpAnyH_ready (rs := [14]) (by kernel_rfl) (by simp) ?_
          refine AllReadyH.cons (o := _) rfl (fun K hK => ?_) AllReadyH.nil
          go_simp
          refine (HOD.out _ (Below.refl _ _).drew).mono ?_
          rintro e w4 ⟨c, rfl, _, _, hb4⟩
          have HW4 : Hid (Below wr.heap.size wr w4) := (Below.refl wr.heap.size wr).drew.trans hb4
          clear hb4
          refine hK.out _ _ ?_ (fun hHeld => ?_)
          · exact HW4.out
          clear hK K
          refine wpAnyH_take (i := 15) (v := .bool (decide (c < 0))) rfl (by kernel_rfl) (by kernel_rfl) (by kernel_rfl) (fun _ _ _ h => h) (Or.inl ⟨by rfl, ?_⟩) (by assumption) ?_
          · (intro w1 hSw; (try dsimp only at hSw); go_simp)
          simp only [List.getElem_toArray, List.getElem_cons_succ, List.getElem_cons_zero, Act.put, List.setIfInBounds_toArray, List.set_cons_zero, List.set_cons_succ]
          refine wpAnyH_take (i := 16) (v := .bool (decide (c < 0))) rfl (by kernel_rfl) (by kernel_rfl) (by kernel_rfl) (fun _ _ _ h => h) (Or.inl ⟨by rfl, ?_⟩) (by assumption) ?_
          · (intro w1 hSw; (try dsimp only at hSw); go_simp)
          simp only [List.getElem_toArray, List.getElem_cons_succ, List.getElem_cons_zero, Act.put, List.setIfInBounds_toArray, List.set_cons_zero, List.set_cons_succ]
          clear hHeld
          refine wpAnyH_done (by kernel_rfl) ?_ _
          refine NoPanic.normal ?_
          have HI4 : Hid (PmI w base g n cap its0 l w4) := HI.out.below HW4.out
          by_cases hc0 : c < 0
          · rw [decide_eq_true hc0]
            obtain ⟨c0, c1, c2, c3, c4, c5, c6, c7, c8⟩ := HCA.out _ HW4.out
            obtain ⟨d0, d1, d2, d3, d4, d5, d6, d7, d8⟩ := HCB.out _ HW4.out
            obtain ⟨cur, hcur, hcs⟩ := pmI_row HI4.out
            have HCU : Hid _ := hcur
            clear hcur
            go_wp2_with fail
            refine wp_region_noPanic ?_
            refine wp_region_S 15 (fun _ => True) (fun w' => w'.cell? ⟨g, (i + 1) * 9, none⟩ = some (.slice pa pn pc) ∧ w'.cell? ⟨g, (i + 1) * 9 + 1, none⟩ = some (.int .i64 P.f) ∧ w'.cell? ⟨g, (i + 1) * 9 + 2, none⟩ = some (.int .i64 (P.g : Int)) ∧ w'.cell? ⟨g, (i + 1) * 9 + 3, none⟩ = some (.int .u64 P.a.c) ∧ w'.cell? ⟨g, (i + 1) * 9 + 4, none⟩ = some (.bool P.a.o) ∧ w'.cell? ⟨g, (i + 1) * 9 + 5, none⟩ = some (.int .i64 (hi P.a.s)) ∧ w'.cell? ⟨g, (i + 1) * 9 + 6, none⟩ = some (.int .u64 (lo P.a.s)) ∧ w'.cell? ⟨g, (i + 1) * 9 + 7, none⟩ = some (.int .i64 P.a.mn) ∧ w'.cell? ⟨g, (i + 1) * 9 + 8, none⟩ = some (.int .i64 P.a.mx) ∧ w'.cell? ⟨g, i * 9, none⟩ = some (.slice qa qn qc) ∧ w'.cell? ⟨g, i * 9 + 1, none⟩ = some (.int .i64 Q.f) ∧ w'.cell? ⟨g, i * 9 + 2, none⟩ = some (.int .i64 (Q.g : Int)) ∧ w'.cell? ⟨g, i * 9 + 3, none⟩ = some (.int .u64 Q.a.c) ∧ w'.cell? ⟨g, i * 9 + 4, none⟩ = some (.bool Q.a.o) ∧ w'.cell? ⟨g, i * 9 + 5, none⟩ = some (.int .i64 (hi Q.a.s)) ∧ w'.cell? ⟨g, i * 9 + 6, none⟩ = some (.int .u64 (lo Q.a.s)) ∧ w'.cell? ⟨g, i * 9 + 7, none⟩ = some (.int .i64 Q.a.mn) ∧ w'.cell? ⟨g, i * 9 + 8, none⟩ = some (.int .i64 Q.a.mx)) (by kernel_rfl) ?_ ?_ (fun hHeld => ?_)
            · trivial
            · exact ⟨c0, c1, c2, c3, c4, c5, c6, c7, c8, d0, d1, d2, d3, d4, d5, d6, d7, d8⟩
            refine wpAnyS_take (i := 0) (v := .slice (some ⟨g, 0, none⟩) n cap) _ rfl (by kernel_rfl) (by kernel_rfl) (by kernel_rfl) (by kernel_rfl) (by kernel_rfl) rfl (fun _ _ _ h => h) (Or.inl ⟨by rfl, ?_⟩) hHeld (fun hHeld => ?_)
            · (intro w1 hSw; have hSw := hSw.1; (try dsimp only at hSw); go_simp)
            simp only [List.getElem_toArray, List.getElem_cons_zero, Act.put, List.setIfInBounds_toArray, List.set_cons_zero, List.set_cons_succ]
            refine wpAnyS_take (i := 1) (v := .int .i64 ((i : Int) + 1)) _ rfl (by kernel_rfl) (by kernel_rfl) (by kernel_rfl) (by kernel_rfl) (by kernel_rfl) rfl (fun _ _ _ h => h) (Or.inl ⟨by rfl, ?_⟩) hHeld (fun hHeld => ?_)
            · (intro w1 hSw; have hSw := hSw.1; (try dsimp only at hSw); go_simp)
            simp only [List.getElem_toArray, List.getElem_cons_succ, List.getElem_cons_zero, Act.put, List.setIfInBounds_toArray, List.set_cons_zero, List.set_cons_succ]
            refine wpAnyS_take (i := 2) (v := .slice (some ⟨g, 0, none⟩) n cap) _ rfl (by kernel_rfl) (by kernel_rfl) (by kernel_rfl) (by kernel_rfl) (by kernel_rfl) rfl (fun _ _ _ h => h) (Or.inl ⟨by rfl, ?_⟩) hHeld (fun hHeld => ?_)
            · (intro w1 hSw; have hSw := hSw.1; (try dsimp only at hSw); go_simp)
            simp only [List.getElem_toArray, List.getElem_cons_succ, List.getElem_cons_zero, Act.put, List.setIfInBounds_toArray, List.set_cons_zero, List.set_cons_succ]
            refine wpAnyS_take (i := 3) (v := .int .i64 ((i : Int) + 1)) _ rfl (by kernel_rfl) (by kernel_rfl) (by kernel_rfl) (by kernel_rfl) (by kernel_rfl) rfl (fun _ _ _ h => h) (Or.inl ⟨by rfl, ?_⟩) hHeld (fun hHeld => ?_)
            · (intro w1 hSw; have hSw := hSw.1; (try dsimp only at hSw); go_simp)
            simp only [List.getElem_toArray, List.getElem_cons_succ, List.getElem_cons_zero, Act.put, List.setIfInBounds_toArray, List.set_cons_zero, List.set_cons_succ]
            refine wpAnyS_take (i := 4) (v := .int .i64 (i : Int)) _ rfl (by kernel_rfl) (by kernel_rfl) (by kernel_rfl) (by kernel_rfl) (by kernel_rfl) rfl (fun _ _ _ h => h) (Or.inl ⟨by rfl, ?_⟩) hHeld (fun hHeld => ?_)
            · (intro w1 hSw; have hSw := hSw.1; (try dsimp only at hSw); go_simp; (rw [IntKind.wrap_i64]; omega))
            simp only [List.getElem_toArray, List.getElem_cons_succ, List.getElem_cons_zero, Act.put, List.setIfInBounds_toArray, List.set_cons_zero, List.set_cons_succ]
            refine wpAnyS_take (i := 5) (v := .slice (some ⟨g, 0, none⟩) n cap) _ rfl (by kernel_rfl) (by kernel_rfl) (by kernel_rfl) (by kernel_rfl) (by kernel_rfl) rfl (fun _ _ _ h => h) (Or.inl ⟨by rfl, ?_⟩) hHeld (fun hHeld => ?_)
            · (intro w1 hSw; have hSw := hSw.1; (try dsimp only at hSw); go_simp)
            simp only [List.getElem_toArray, List.getElem_cons_succ, List.getElem_cons_zero, Act.put, List.setIfInBounds_toArray, List.set_cons_zero, List.set_cons_succ]
            refine wpAnyS_take (i := 6) (v := .int .i64 ((i : Int) + 1)) _ rfl (by kernel_rfl) (by kernel_rfl) (by kernel_rfl) (by kernel_rfl) (by kernel_rfl) rfl (fun _ _ _ h => h) (Or.inl ⟨by rfl, ?_⟩) hHeld (fun hHeld => ?_)
            · (intro w1 hSw; have hSw := hSw.1; (try dsimp only at hSw); go_simp)
            simp only [List.getElem_toArray, List.getElem_cons_succ, List.getElem_cons_zero, Act.put, List.setIfInBounds_toArray, List.set_cons_zero, List.set_cons_succ]
            refine wpAnyS_take (i := 7) (v := .int .i64 (i : Int)) _ rfl (by kernel_rfl) (by kernel_rfl) (by kernel_rfl) (by kernel_rfl) (by kernel_rfl) rfl (fun _ _ _ h => h) (Or.inl ⟨by rfl, ?_⟩) hHeld (fun hHeld => ?_)
            · (intro w1 hSw; have hSw := hSw.1; (try dsimp only at hSw); go_simp; (rw [IntKind.wrap_i64]; omega))
            simp only [List.getElem_toArray, List.getElem_cons_succ, List.getElem_cons_zero, Act.put, List.setIfInBounds_toArray, List.set_cons_zero, List.set_cons_succ]
            refine wpAnyS_take (i := 8) (v := .pointer (some ⟨g, i * 9, none⟩)) _ rfl (by kernel_rfl) (by kernel_rfl) (by kernel_rfl) (by kernel_rfl) (by kernel_rfl) rfl (fun _ _ _ h => h) (Or.inl ⟨by rfl, ?_⟩) hHeld (fun hHeld => ?_)
            · (intro w1 hSw; have hSw := hSw.1; (try dsimp only at hSw); go_simp; (intro hh; exfalso; first | omega | (have := hh (by omega); omega)))
            simp only [List.getElem_toArray, List.getElem_cons_succ, List.getElem_cons_zero, Act.put, List.setIfInBounds_toArray, List.set_cons_zero, List.set_cons_succ]
            refine wpAnyS_take (i := 9) (v := .agg #[.slice qa qn qc, .int .i64 Q.f, .int .i64 (Q.g : Int), .int .u64 Q.a.c, .bool Q.a.o, .int .i64 (hi Q.a.s), .int .u64 (lo Q.a.s), .int .i64 Q.a.mn, .int .i64 Q.a.mx]) true rfl (by kernel_rfl) (by kernel_rfl) (by kernel_rfl) (by kernel_rfl) (by kernel_rfl) (by kernel_rfl) (fun _ _ _ h => h) (Or.inl ⟨by rfl, ?_⟩) hHeld (fun hHeld => ?_)
            · (intro w1 hSw; have hSw2 := hSw.2 rfl; have hSw := hSw.1; (try dsimp only at hSw hSw2); go_simp)
            simp only [List.getElem_toArray, List.getElem_cons_succ, List.getElem_cons_zero, Act.put, List.setIfInBounds_toArray, List.set_cons_zero, List.set_cons_succ]
            refine wpAnyS_take (i := 10) (v := .slice (some ⟨g, 0, none⟩) n cap) _ rfl (by kernel_rfl) (by kernel_rfl) (by kernel_rfl) (by kernel_rfl) (by kernel_rfl) rfl (fun _ _ _ h => h) (Or.inl ⟨by rfl, ?_⟩) hHeld (fun hHeld => ?_)
            · (intro w1 hSw; have hSw := hSw.1; (try dsimp only at hSw); go_simp)
            simp only [List.getElem_toArray, List.getElem_cons_succ, List.getElem_cons_zero, Act.put, List.setIfInBounds_toArray, List.set_cons_zero, List.set_cons_succ]
            refine wpAnyS_take (i := 11) (v := .int .i64 ((i : Int) + 1)) _ rfl (by kernel_rfl) (by kernel_rfl) (by kernel_rfl) (by kernel_rfl) (by kernel_rfl) rfl (fun _ _ _ h => h) (Or.inl ⟨by rfl, ?_⟩) hHeld (fun hHeld => ?_)
            · (intro w1 hSw; have hSw := hSw.1; (try dsimp only at hSw); go_simp)
            simp only [List.getElem_toArray, List.getElem_cons_succ, List.getElem_cons_zero, Act.put, List.setIfInBounds_toArray, List.set_cons_zero, List.set_cons_succ]
            refine wpAnyS_take (i := 12) (v := .pointer (some ⟨g, (i + 1) * 9, none⟩)) _ rfl (by kernel_rfl) (by kernel_rfl) (by kernel_rfl) (by kernel_rfl) (by kernel_rfl) rfl (fun _ _ _ h => h) (Or.inl ⟨by rfl, ?_⟩) hHeld (fun hHeld => ?_)
            · (intro w1 hSw; have hSw := hSw.1; (try dsimp only at hSw); go_simp; (intro hh; exfalso; first | omega | (have := hh (by omega); omega)))
            simp only [List.getElem_toArray, List.getElem_cons_succ, List.getElem_cons_zero, Act.put, List.setIfInBounds_toArray, List.set_cons_zero, List.set_cons_succ]
            refine wpAnyS_take (i := 13) (v := .agg #[.slice pa pn pc, .int .i64 P.f, .int .i64 (P.g : Int), .int .u64 P.a.c, .bool P.a.o, .int .i64 (hi P.a.s), .int .u64 (lo P.a.s), .int .i64 P.a.mn, .int .i64 P.a.mx]) true rfl (by kernel_rfl) (by kernel_rfl) (by kernel_rfl) (by kernel_rfl) (by kernel_rfl) (by kernel_rfl) (fun _ _ _ h => h) (Or.inl ⟨by rfl, ?_⟩) hHeld (fun hHeld => ?_)
            · (intro w1 hSw; have hSw2 := hSw.2 rfl; have hSw := hSw.1; (try dsimp only at hSw hSw2); go_simp)
            simp only [List.getElem_toArray, List.getElem_cons_succ, List.getElem_cons_zero, Act.put, List.setIfInBounds_toArray, List.set_cons_zero, List.set_cons_succ]
            refine wpAnyS_take (i := 14) (v := .pointer (some ⟨g, (i + 1) * 9, none⟩)) _ rfl (by kernel_rfl) (by kernel_rfl) (by kernel_rfl) (by kernel_rfl) (by kernel_rfl) rfl (fun _ _ _ h => h) (Or.inl ⟨by rfl, ?_⟩) hHeld (fun hHeld => ?_)
            · (intro w1 hSw; have hSw := hSw.1; (try dsimp only at hSw); go_simp; (intro hh; exfalso; first | omega | (have := hh (by omega); omega)))
            simp only [List.getElem_toArray, List.getElem_cons_succ, List.getElem_cons_zero, Act.put, List.setIfInBounds_toArray, List.set_cons_zero, List.set_cons_succ]
            refine wpAnyS_ready (i := 15) (by kernel_rfl) rfl (fun K hK => ?_)
            rw [if_pos (by rfl)]
            refine wp_storeN _ _ _ rfl g ((i + 1) * 9) [.slice qa qn qc, .int .i64 Q.f, .int .i64 (Q.g : Int), .int .u64 Q.a.c, .bool Q.a.o, .int .i64 (hi Q.a.s), .int .u64 (lo Q.a.s), .int .i64 Q.a.mn, .int .i64 Q.a.mx] rfl rfl cur _ HCU.out (by simp; omega) (by kernel_rfl) (by kernel_rfl) (fun W0 hW0 => ?_)
            refine hK.out _ _ ⟨?_, fun hno => absurd hno (by decide)⟩ (fun hHeld => ?_)
            · trivial
            clear hK K
            refine wpAnyS_take (i := 16) (v := .pointer (some ⟨g, i * 9, none⟩)) _ rfl (by kernel_rfl) (by kernel_rfl) (by kernel_rfl) (by kernel_rfl) (by kernel_rfl) rfl (fun _ _ _ h => h) (Or.inl ⟨by rfl, ?_⟩) hHeld (fun hHeld => ?_)
            · (intro w1 hSw; have hSw := hSw.1; (try dsimp only at hSw); go_simp; (intro hh; exfalso; first | omega | (have := hh (by omega); omega)))
            simp only [List.getElem_toArray, List.getElem_cons_succ, List.getElem_cons_zero, Act.put, List.setIfInBounds_toArray, List.set_cons_zero, List.set_cons_succ]
            refine wpAnyS_ready (i := 17) (by kernel_rfl) rfl (fun K hK => ?_)
            rw [if_pos (by rfl)]
            obtain ⟨cur2, hcu2, hcz2, _, _⟩ := hW0.c
            refine wp_storeN _ _ _ rfl g (i * 9) [.slice pa pn pc, .int .i64 P.f, .int .i64 (P.g : Int), .int .u64 P.a.c, .bool P.a.o, .int .i64 (hi P.a.s), .int .u64 (lo P.a.s), .int .i64 P.a.mn, .int .i64 P.a.mx] rfl rfl cur2 _ hcu2 (by simp; omega) (by kernel_rfl) (by kernel_rfl) (fun W1 hW1 => ?_)
            refine hK.out _ _ ⟨?_, fun hno => absurd hno (by decide)⟩ (fun hHeld => ?_)
            · trivial
            clear hK K
            refine wpAnyS_done (by kernel_rfl) ?_ _
            refine NoPanic.normal ?_
            obtain ⟨l', hl'⟩ := HSW.out w4.drew W0 W1 cur (HI4.out.below (Below.refl _ _).drew) HCU.out (by rw [HQV.out]; exact hW0) (fun c2 h2 => by rw [HPV.out]; exact stW_any hcu2 h2 hW1)
            have HN : Hid (PmI w base g n cap its0 l' W1) := hl'
            clear hW0 hW1 hl' c0 c1 c2 c3 c4 c5 c6 c7 c8 d0 d1 d2 d3 d4 d5 d6 d7 d8 hcu2 hcz2
            go_wp2_with fail
            go_roundw
            case rel => exact ⟨i, l', by go_num, by omega, by omega, HN⟩
            case measure => simp [intOf]
          · rw [decide_eq_false hc0]
            go_wp2_with fail
            go_roundw
            case rel => exact ⟨k + 1, l, by go_num, by omega, by omega, HI4⟩
            case measure => simp [intOf]; omega
        · have hng : decide ((a : Int) < (j : Int)) = false := by simp; omega
          go_wp2_with fail
          go_quiet (fail)
          have HI2 : Hid (PmI w base g n cap its0 l (wr.drewN nq)) := HI.out.below (below_drewN (Below.refl _ _) nq)
          go_wp2_with fail
          go_roundw
          case rel => exact ⟨k + 1, l, by go_num, by omega, by omega, HI2⟩
          case measure => simp [intOf]; omega
    · have HE : Hid (IsPost w base g n cap its0 (.returned (.tuple #[])) wr) := ⟨⟨_, rfl⟩, l, HI.out⟩
      go_wp2_with fail
      exact bodyPost_end (results_none rfl _ _ _) rfl HE.out
end Go.Proofs.Ytbadjigfcncfcaa

/- The contract of slices.SortStableFunc of a few items. -/
namespace Go.Proofs.Ytbadjigfcncfcaa
open Go.RowKit Go.Shelf

/-- So many items are put into some order. -/
def Sorts (n : Nat) : Prop := ∀ (w : World) (base g cap : Nat) (its0 its : List It) (W : World), PmI w base g n cap its0 its W → Calls Try.prog 35 #[.slice (some ⟨g, 0, none⟩) n cap, .func (.func 36) #[] #[]] W (IsPost w base g n cap its0)
set_option maxRecDepth 100000 in
set_option maxHeartbeats 2000000 in
theorem stable_small (w : World) (base g n cap : Nat) (its0 its : List It) (W : World) (h : PmI w base g n cap its0 its W) (hn : n < 20) :
    Calls Try.prog 61 #[.slice (some ⟨g, 0, none⟩) n cap, .int .i64 (n : Int), .func (.func 36) #[] #[]] W (IsPost w base g n cap its0) := by
  have HI : Hid (Calls Try.prog 75 #[.slice (some ⟨g, 0, none⟩) n cap, .int .i64 0, .int .i64 (n : Int), .func (.func 36) #[] #[]] W (IsPost w base g n cap its0)) := insSort_any w base g n cap its0 its W h (by omega) 0 n (by omega) (Nat.le_refl _)
  have g1 : ¬ ((20 : Int) ≤ (n : Int)) := by omega
  have g2 : ¬ ((20 : Int) < (n : Int)) := by omega
  clear h
  go_enter Try.func61, Try.ntmps61
  go_wp2_with fail
  go_loopw [7, 8] (fun av bv wr => av = .int .i64 0 ∧ bv = .int .i64 20 ∧ wr = W) (fun _ _ _ => 0)
  case atStart => exact ⟨rfl, rfl, rfl⟩
  case round =>
    obtain ⟨rfl, rfl, rfl⟩ := hrel
    go_wp2_with fail
    refine HI.out.mono ?_
    rintro e w2 ⟨⟨v, rfl⟩, l, hl⟩
    have HE : Hid (IsPost w base g n cap its0 (.returned (.tuple #[])) w2) := ⟨⟨_, rfl⟩, l, hl⟩
    clear hl
    go_wp2_with fail
    go_loopw [6] (fun bv wr => bv = .int .i64 20 ∧ wr = w2) (fun _ _ => 0)
    case atStart => exact ⟨rfl, rfl⟩
    case round =>
      obtain ⟨rfl, rfl⟩ := hrel
      go_wp2_with fail
      exact bodyPost_end (results_none rfl _ _ _) rfl HE.out
set_option maxRecDepth 100000 in
theorem sorts_of (n : Nat) (h : ∀ (w : World) (base g cap : Nat) (its0 its : List It) (W : World), PmI w base g n cap its0 its W → Calls Try.prog 61 #[.slice (some ⟨g, 0, none⟩) n cap, .int .i64 (n : Int), .func (.func 36) #[] #[]] W (IsPost w base g n cap its0)) : Sorts n := by
  intro w base g cap its0 its W hp
  have HI : Hid (Calls Try.prog 61 #[.slice (some ⟨g, 0, none⟩) n cap, .int .i64 (n : Int), .func (.func 36) #[] #[]] W (IsPost w base g n cap its0)) := h w base g cap its0 its W hp
  clear h hp
  go_enter Try.func35, Try.ntmps35
  go_wp2_with fail
  refine HI.out.mono ?_
  rintro e w2 ⟨⟨v, rfl⟩, l, hl⟩
  have HE : Hid (IsPost w base g n cap its0 (.returned (.tuple #[])) w2) := ⟨⟨_, rfl⟩, l, hl⟩
  clear hl
  go_wp2_with fail
  exact bodyPost_end (results_none rfl _ _ _) rfl HE.out
theorem sorts_small (n : Nat) (hn : n < 20) : Sorts n := sorts_of n fun w base g cap its0 its W h => stable_small w base g n cap its0 its W h hn
def NlPost (w : World) (e : Ending) (W : World) : Prop := (∃ v, e = .returned v) ∧ W = w
set_option maxRecDepth 100000 in
theorem ins_nil (w : World) : Calls Try.prog 75 #[.slice none 0 0, .int .i64 0, .int .i64 0, .func (.func 36) #[] #[]] w (NlPost w) := by
  have HE : Hid (NlPost w (.returned (.tuple #[])) w) := ⟨⟨_, rfl⟩, rfl⟩
  go_enter Try.func75, Try.ntmps75
  go_wp2_with fail
  go_loopw [8] (fun i wr => i = .int .i64 1 ∧ wr = w) (fun _ _ => 0)
  case atStart => exact ⟨rfl, rfl⟩
  case round =>
    obtain ⟨rfl, rfl⟩ := hrel
    go_wp2_with fail
    exact bodyPost_end (results_none rfl _ _ _) rfl HE.out
set_option maxRecDepth 100000 in
theorem stable_nil (w : World) : Calls Try.prog 61 #[.slice none 0 0, .int .i64 0, .func (.func 36) #[] #[]] w (NlPost w) := by
  have HE : Hid (NlPost w (.returned (.tuple #[])) w) := ⟨⟨_, rfl⟩, rfl⟩
  go_enter Try.func61, Try.ntmps61
  go_wp2_with fail
  go_loopw [7, 8] (fun av bv wr => av = .int .i64 0 ∧ bv = .int .i64 20 ∧ wr = w) (fun _ _ _ => 0)
  case atStart => exact ⟨rfl, rfl, rfl⟩
  case round =>
    obtain ⟨rfl, rfl, rfl⟩ := hrel
    go_wp2_with fail
    refine (ins_nil _).mono ?_
    rintro e w2 ⟨⟨v, rfl⟩, hw2⟩
    subst hw2
    go_wp2_with fail
    go_loopw [6] (fun bv wq => bv = .int .i64 20 ∧ Hid (NlPost w2 (.returned (.tuple #[])) wq)) (fun _ _ => 0)
    case atStart => exact ⟨rfl, HE⟩
    case round =>
      obtain ⟨rfl, HE2⟩ := hrel
      go_wp2_with fail
      exact bodyPost_end (results_none rfl _ _ _) rfl HE2.out
set_option maxRecDepth 100000 in
theorem sort_nil (w : World) : Calls Try.prog 35 #[.slice none 0 0, .func (.func 36) #[] #[]] w (NlPost w) := by
  go_enter Try.func35, Try.ntmps35
  go_wp2_with fail
  refine (stable_nil _).mono ?_
  rintro e w2 ⟨⟨v, rfl⟩, rfl⟩
  go_wp2_with fail
  exact bodyPost_end (results_none rfl _ _ _) rfl ⟨⟨_, rfl⟩, rfl⟩
end Go.Proofs.Ytbadjigfcncfcaa

/- Facts in memory; what fold.Facts makes of them. -/
namespace Go.Proofs.Ytbadjigfcncfcaa
open Go.RowKit Go.Shelf

/-- A fact. -/
structure Fa where
  v : Value
  D : List ByteArray
  t : Int
  x : Int
def c3 (f : Fa) : List Value := [f.v, .int .i64 f.t, .int .i64 f.x]
structure FaB (f : Fa) : Prop where
  t1 : -9223372036854775808 ≤ f.t
  t2 : f.t ≤ 9223372036854775807
  x1 : -9223372036854775808 ≤ f.x
  x2 : f.x ≤ 9223372036854775807
/-- A slice reads these facts. -/
def FReads (w : World) (v : Value) (fs : List Fa) : Prop :=
  ∃ a cap, v = .slice a fs.length cap ∧ fs.length ≤ cap ∧ cap ≤ maxLen ∧ (fs = [] ∨ ∃ b off, a = some ⟨b, off, none⟩ ∧ b < w.heap.size ∧ ∀ j (hj : j < fs.length), (∀ i (hi : i < 3), w.cell? ⟨b, off + j * 3 + i, none⟩ = some ((c3 fs[j])[i]'hi)) ∧ SReads w fs[j].v fs[j].D ∧ FaB fs[j])
theorem FReads.below {w w' : World} {v : Value} {fs : List Fa} (h : FReads w v fs) (hb : Below w.heap.size w w') : FReads w' v fs := by
  obtain ⟨a, cap, rfl, h1, h2, h3⟩ := h
  refine ⟨a, cap, rfl, h1, h2, ?_⟩
  rcases h3 with h3 | ⟨b, off, h4, h5, h6⟩
  · exact .inl h3
  · refine .inr ⟨b, off, h4, Nat.lt_of_lt_of_le h5 hb.size, fun j hj => ?_⟩
    obtain ⟨g1, g2, g3⟩ := h6 j hj
    exact ⟨fun i hi => (hb.cell (p := ⟨b, off + j * 3 + i, none⟩) h5).trans (g1 i hi), g2.below hb, g3⟩
theorem FReads.form {w : World} {v : Value} {fs : List Fa} (h : FReads w v fs) : ∃ a cap, v = .slice a fs.length cap ∧ fs.length ≤ cap ∧ cap ≤ maxLen := by
  obtain ⟨a, cap, rfl, h1, h2, _⟩ := h
  exact ⟨a, cap, rfl, h1, h2⟩
theorem FReads.at {w : World} {a : Option Addr} {n cap : Nat} {fs : List Fa} (h : FReads w (.slice a n cap) fs) {j : Nat} (hj : j < fs.length) : ∃ b off, a = some ⟨b, off, none⟩ ∧ b < w.heap.size ∧ (∀ i (hi : i < 3), w.cell? ⟨b, off + j * 3 + i, none⟩ = some ((c3 fs[j])[i]'hi)) ∧ SReads w fs[j].v fs[j].D ∧ FaB fs[j] := by
  obtain ⟨a', cap', hv, _, _, h3⟩ := h
  simp at hv
  obtain ⟨rfl, rfl, rfl⟩ := hv
  rcases h3 with rfl | ⟨b, off, rfl, h5, h6⟩
  · simp at hj
  · exact ⟨b, off, rfl, h5, (h6 j hj).1, (h6 j hj).2.1, (h6 j hj).2.2⟩
theorem sreads_lt {w : World} {v : Value} {D : List ByteArray} (h : SReads w v D) (h0 : 0 < D.length) : ∀ b, v.ownBlock = some b → b < w.heap.size := by
  intro b hb
  rcases h with ⟨rfl, _⟩ | ⟨b', off, cap, h1, h2, h3, h4, h5, _⟩
  · simp at h0
  · rw [h1] at hb
    simp only [Value.ownBlock] at hb
    cases hb; exact h5
/-- May it be a fact? -/
def mayF (f : Fa) : Bool := isT f.t && mayB f.D
/-- What is known of a fact, at its bucket at the first step. -/
def fcE (R : Rl) (f : Fa) : En := (kb f.D (f.t - f.t % R.sz 0) 0, oneF f.x)
def fcI (R : Rl) (f : Fa) : It := ⟨f.v, f.D, f.t - f.t % R.sz 0, 0, oneF f.x⟩
theorem fcI_E (R : Rl) (f : Fa) : itE (fcI R f) = fcE R f := rfl
theorem oneF_gd (x : Int) : Gd (oneF x) := by
  refine ⟨⟨by show (0 : Int) ≤ 1; decide, by show (1 : Int) < 18446744073709551616; decide⟩, ?_, fun h => ?_⟩
  · unfold rightB oneF; simp
  · unfold oneF at h; simp at h
theorem floor0 {R : Rl} (hR : RightP R) {t : Int} (ht : isT t = true) : 0 ≤ t - t % R.sz 0 ∧ t - t % R.sz 0 ≤ t ∧ t ≤ 1099511627776 := by
  have h1 := (isT_iff _).1 ht
  have h2 := (isS_iff _).1 (sz_ok hR (i := 0) (by have := hR.1; omega))
  have h3 := mod_bd t (R.sz 0) h1.1 h2.1
  omega
theorem fcI_ok {R : Rl} (hR : RightP R) {f : Fa} (h : mayF f = true) : ItOk R (fcI R f) := by
  unfold mayF at h
  simp only [Bool.and_eq_true] at h
  have h0 := floor0 hR h.1
  have hl := hR.1
  refine ⟨?_, ?_, (oneF_gd f.x).c, by show (1 : Int) ≠ 0; decide, (oneF_gd f.x).r⟩
  · unfold rightBK fcI
    dsimp only
    rw [h.2, Bool.true_and, decide_eq_true_eq]
    omega
  · refine (begB_iff hR).2 ⟨by show 0 < R.len; omega, (isT_iff _).2 ⟨h0.1, by show f.t - f.t % R.sz 0 ≤ _; omega⟩, ?_⟩
    show (f.t - f.t % R.sz 0) % R.sz 0 = 0
    rw [fl_eq]
    exact Int.mul_emod_right ..
theorem fcI_b {R : Rl} (hR : RightP R) {f : Fa} (h : isT f.t = true) : ItB (fcI R f) := by
  have h0 := floor0 hR h
  exact ⟨by show (-9223372036854775808 : Int) ≤ f.t - f.t % R.sz 0; omega, by show f.t - f.t % R.sz 0 ≤ (9223372036854775807 : Int); omega, by show ((0 : Nat) : Int) ≤ _; decide⟩
def FcPost (R : Rl) (wm : Int) (fs : List Fa) (w : World) (e : Ending) (w' : World) : Prop :=
  Below w.heap.size w w' ∧ ((fE R 0 wm ≠ 0 ∧ e = .returned (.tuple #[.slice none 0 0, .int .i64 (fE R 0 wm)])) ∨ (fE R 0 wm = 0 ∧ fs.all mayF = false ∧ e = .returned (.tuple #[.slice none 0 0, .int .i64 110])) ∨ (fE R 0 wm = 0 ∧ fs.all mayF = true ∧ ∃ v, e = .returned (.tuple #[v, .int .i64 0]) ∧ EReads w' v (foldF R wm (fs.map (fcE R)))))
/-- What the loop of Facts keeps: items of one's own. -/
structure FcI (R : Rl) (w w1 : World) (fs : List Fa) (k : Nat) (v : Value) (wr : World) : Prop where
  r : wr.ownsRow w1.heap.size 75 9 v k (((fs.take k).map (fcI R)).flatMap c9)
  m : ∀ j (hj : j < fs.length), j < k → mayF fs[j] = true
  b : Below w1.heap.size w1 wr
theorem FcI.below {R : Rl} {w w1 : World} {fs : List Fa} {k : Nat} {v : Value} {wr W : World} (h : FcI R w w1 fs k v wr) (hb : Below wr.heap.size wr W) : FcI R w w1 fs k v W := ⟨row_below h.r hb, h.m, h.b.trans (hb.mono h.b.size)⟩
theorem all_may {fs : List Fa} (h : ∀ j (hj : j < fs.length), mayF fs[j] = true) : fs.all mayF = true := by
  rw [List.all_eq_true]
  intro x hx
  obtain ⟨j, hj, rfl⟩ := List.getElem_of_mem hx
  exact h j hj
theorem all_not {fs : List Fa} {k : Nat} (hk : k < fs.length) (h : mayF fs[k] = false) : fs.all mayF = false := by
  rw [List.all_eq_false]
  exact ⟨_, List.getElem_mem hk, by rw [h]; simp⟩
theorem perm_fold {R : Rl} {wm : Int} {A B : List En} (hp : A.Perm B) (hg : GdE A) : foldF R wm A = foldF R wm B := by
  unfold foldF
  exact can_perm (fm_perm _ hp) (fm_gd _ hg)
end Go.Proofs.Ytbadjigfcncfcaa
