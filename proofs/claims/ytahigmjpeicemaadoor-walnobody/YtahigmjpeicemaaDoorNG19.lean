/- WNb, joined. -/
import Derived.Test.YtahigmjpeicemaaDoorNG15
import Derived.Test.YtahigmjpeicemaaDoorNG18
/- wal: logs that are nil, or that no call made, or on no file system; the walk of WalNobody. -/
namespace Go.Proofs.YtahigmjpeicemaaDoor
open Go.RowKit Go.Shelf

set_option maxRecDepth 100000 in
theorem lmade_nil (w : World) : Calls Tryd.prog 46 #[.pointer none] w fun e w' => e = .returned (.bool false) ∧ w' = w := by
  go_enter Tryd.func46, Tryd.ntmps46
  go_wp2_with fail
  go_ret
  exact ⟨rfl, rfl⟩
set_option maxRecDepth 100000 in
theorem lmade_zero (g : Nat) (w : World) (h : w.cell? ⟨g, 0, none⟩ = some (.pointer none)) : Calls Tryd.prog 46 #[.pointer (some ⟨g, 0, none⟩)] w fun e w' => e = .returned (.bool false) ∧ w' = w := by
  go_enter Tryd.func46, Tryd.ntmps46
  go_wp2_with fail
  go_ret
  exact ⟨rfl, rfl⟩
theorem ladd_no (p : Value) (hp : p = .pointer none ∨ ∃ g, p = .pointer (some ⟨g, 0, none⟩)) (r : Rc) (w : World) (h : RcOk w r) (hm : ∀ W, Below w.heap.size w W → Calls Tryd.prog 46 #[p] W fun e w' => e = .returned (.bool false) ∧ w' = W) :
    Calls Tryd.prog 18 #[p, r.val] w fun e w' => e = .returned (.int .i64 6) ∧ Below w.heap.size w w' := by
  have HM : Hid (∀ W, Below w.heap.size w W → Calls Tryd.prog 46 #[p] W fun e w' => e = .returned (.bool false) ∧ w' = W) := hm
  obtain ⟨a, cap, hv, _⟩ := h.f.form
  have HB : Hid (Below w.heap.size w (w.alloc (.cells #[.slice a r.fs.length cap, .int .i64 r.m] 24))) := (Below.refl _ _).alloc (Nat.le_refl _) _
  unfold Rc.val
  rw [hv]
  clear hv h hm
  rcases hp with rfl | ⟨g, rfl⟩
  all_goals
    go_enter Tryd.func18, Tryd.ntmps18
    go_wp2_with fail
    refine (HM.out _ HB.out).mono ?_
    rintro e w1 ⟨rfl, hw⟩
    subst w1
    go_wp2_with fail
    go_ret
    exact ⟨rfl, HB.out⟩
theorem lsync_no (p : Value) (hp : p = .pointer none ∨ ∃ g, p = .pointer (some ⟨g, 0, none⟩)) (w : World) (hm : Calls Tryd.prog 46 #[p] w fun e w' => e = .returned (.bool false) ∧ w' = w) :
    Calls Tryd.prog 19 #[p] w fun e w' => e = .returned (.int .i64 6) ∧ w' = w := by
  have HM : Hid (Calls Tryd.prog 46 #[p] w fun e w' => e = .returned (.bool false) ∧ w' = w) := hm
  clear hm
  rcases hp with rfl | ⟨g, rfl⟩
  all_goals
    go_enter Tryd.func19, Tryd.ntmps19
    go_wp2_with fail
    refine HM.out.mono ?_
    rintro e w1 ⟨rfl, hw⟩
    subst w1
    go_wp2_with fail
    go_ret
    exact ⟨rfl, rfl⟩
set_option maxRecDepth 100000 in
theorem create_nil (n : List UInt8) (w : World) : Calls Tryd.prog 42 #[.pointer none, .string ⟨n.toArray⟩] w fun e w' => e = .returned (.int .i64 6) ∧ w' = w := by
  go_enter Tryd.func42, Tryd.ntmps42
  go_wp2_with fail
  refine (made_nil w).mono ?_
  rintro e w1 ⟨rfl, hw⟩
  subst w1
  go_wp2_with fail
  go_ret
  exact ⟨rfl, rfl⟩
set_option maxRecDepth 100000 in
theorem fread_nil (n : List UInt8) (w : World) : Calls Tryd.prog 44 #[.pointer none, .string ⟨n.toArray⟩] w fun e w' => e = .returned (.tuple #[.slice none 0 0, .int .i64 6]) ∧ w' = w := by
  go_enter Tryd.func44, Tryd.ntmps44
  go_wp2_with fail
  refine (find_nil n w).mono ?_
  rintro e w1 ⟨rfl, hw⟩
  subst w1
  go_wp2_with fail
  go_ret2
  exact ⟨rfl, rfl⟩
def nlE (n : Int) : Int := if isNo n = true then 6 else 1
set_option maxRecDepth 100000 in
theorem start_nil (n : Int) (w : World) (hT : n < 100 ∨ Tb w) : Calls Tryd.prog 16 #[.pointer none, .int .i64 n] w fun e w' => e = .returned (.tuple #[.pointer none, .int .i64 (nlE n)]) ∧ Below w.heap.size w w' := by
  have HT : Hid (n < 100 ∨ Tb w) := hT
  clear hT
  cases hq : isNo n with
  | false =>
    have HE : Hid (nlE n = 1) := by unfold Hid nlE; rw [hq]; rfl
    go_enter Tryd.func16, Tryd.ntmps16
    go_wp2_with fail
    refine (isNumber_any n w).mono ?_
    rintro e w1 ⟨rfl, hw⟩
    subst w1
    rw [hq]
    go_wp2_with fail
    go_ret2
    exact ⟨by rw [HE.out]; rfl, Below.refl _ _⟩
  | true =>
    have HE : Hid (nlE n = 6) := by unfold Hid nlE; rw [hq]; rfl
    have HQ : Hid (isNo n = true) := hq
    clear hq
    go_enter Tryd.func16, Tryd.ntmps16
    go_wp2_with fail
    refine (isNumber_any n w).mono ?_
    rintro e w1 ⟨rfl, hw⟩
    subst w1
    rw [HQ.out]
    go_wp2_with fail
    refine (name_any seg (by decide) n w HT.out).mono ?_
    rintro e w1 ⟨rfl, hb1⟩
    obtain ⟨NM, HNM⟩ := hid_ex (nmF seg n)
    rw [← HNM.out]
    go_wp2_with fail
    refine (create_nil NM w1).mono ?_
    rintro e w2 ⟨rfl, hw⟩
    subst w2
    go_wp2_with fail
    go_ret2
    exact ⟨by rw [HE.out]; rfl, hb1⟩
set_option maxRecDepth 100000 in
theorem replay_nil (n : Int) (w : World) (hT : n < 100 ∨ Tb w) : Calls Tryd.prog 17 #[.pointer none, .int .i64 n] w fun e w' => e = .returned (.tuple #[.slice none 0 0, .int .i64 (nlE n)]) ∧ Below w.heap.size w w' := by
  have HT : Hid (n < 100 ∨ Tb w) := hT
  clear hT
  cases hq : isNo n with
  | false =>
    have HE : Hid (nlE n = 1) := by unfold Hid nlE; rw [hq]; rfl
    go_enter Tryd.func17, Tryd.ntmps17
    go_wp2_with fail
    refine (isNumber_any n w).mono ?_
    rintro e w1 ⟨rfl, hw⟩
    subst w1
    rw [hq]
    go_wp2_with fail
    go_ret2
    exact ⟨by rw [HE.out]; rfl, Below.refl _ _⟩
  | true =>
    have HE : Hid (nlE n = 6) := by unfold Hid nlE; rw [hq]; rfl
    have HQ : Hid (isNo n = true) := hq
    clear hq
    go_enter Tryd.func17, Tryd.ntmps17
    go_wp2_with fail
    refine (isNumber_any n w).mono ?_
    rintro e w1 ⟨rfl, hw⟩
    subst w1
    rw [HQ.out]
    go_wp2_with fail
    refine (name_any seg (by decide) n w HT.out).mono ?_
    rintro e w1 ⟨rfl, hb1⟩
    obtain ⟨NM, HNM⟩ := hid_ex (nmF seg n)
    rw [← HNM.out]
    go_wp2_with fail
    refine (fread_nil NM w1).mono ?_
    rintro e w2 ⟨rfl, hw⟩
    subst w2
    go_wp2_with fail
    go_ret2
    exact ⟨by rw [HE.out]; rfl, hb1⟩
set_option maxRecDepth 100000 in
set_option maxHeartbeats 4000000 in
theorem nobody_walk (r : Rc) (n : Int) (W : World) (hr : RcOk W r) (hT : Tb W) :
    Calls Tryd.prog 4 #[r.val, .int .i64 n] W fun e w' => e = .returned (.bool true) ∧ Below W.heap.size W w' := by
  obtain ⟨a, ac, hav, _⟩ := hr.f.form
  have HR : Hid (RcOk W r) := hr
  have HT : Hid (Tb W) := hT
  have er : r.val = .agg #[.slice a r.fs.length ac, .int .i64 r.m] := by unfold Rc.val; rw [hav]
  have HGr : Hid (∀ w, RcOk w r → Calls Tryd.prog 5 #[.agg #[.slice a r.fs.length ac, .int .i64 r.m]] w (GrPost w)) := fun w h => by rw [← er]; exact great_any r w h
  have HA1 : Hid (∀ w, RcOk w r → Calls Tryd.prog 18 #[.pointer none, .agg #[.slice a r.fs.length ac, .int .i64 r.m]] w fun e w' => e = .returned (.int .i64 6) ∧ Below w.heap.size w w') := fun w h => by rw [← er]; exact ladd_no _ (.inl rfl) r w h (fun W' _ => lmade_nil W')
  have HA2 : Hid (∀ g w, w.cell? ⟨g, 0, none⟩ = some (.pointer none) → g < w.heap.size → RcOk w r → Calls Tryd.prog 18 #[.pointer (some ⟨g, 0, none⟩), .agg #[.slice a r.fs.length ac, .int .i64 r.m]] w fun e w' => e = .returned (.int .i64 6) ∧ Below w.heap.size w w') := fun g w hc hl h => by rw [← er]; exact ladd_no _ (.inr ⟨g, rfl⟩) r w h (fun W' hb => lmade_zero g W' ((hb.cell (p := ⟨g, 0, none⟩) hl).trans hc))
  rw [er]
  clear er hav hr hT
  have HB0 : Hid (Below W.heap.size W (W.alloc (.cells #[.slice a r.fs.length ac, .int .i64 r.m] 24))) := (Below.refl _ _).alloc (Nat.le_refl _) _
  have HX0 : Hid ((W.alloc (.cells #[.slice a r.fs.length ac, .int .i64 r.m] 24)).heap[W.heap.size]? = some (.cells #[.slice a r.fs.length ac, .int .i64 r.m] 24)) := World.alloc_heap_new _ _
  go_enter Tryd.func4, Tryd.ntmps4
  go_wp2_with fail
  refine (HGr.out _ (HR.out.below HB0.out)).mono ?_
  rintro e w1 ⟨g, rfl, hb1⟩
  have HB1 : Hid (Below W.heap.size W w1) := HB0.out.trans (hb1.mono (by simp))
  have HX1 : Hid (w1.heap[W.heap.size]? = _) := (hb1.block _ (by simp)).trans HX0.out
  clear hb1 HB0 HX0 HGr
  cases g with
  | true =>
    go_wp2_with fail
    refine (alive12_any _).mono ?_
    rintro e w9 ⟨rfl, hb9⟩
    go_wp2_with fail
    go_ret
    exact ⟨rfl, HB1.out.trans (hb9.mono HB1.out.size)⟩
  | false =>
    obtain ⟨E, HE⟩ := hid_ex (nlE n)
    go_wp2_with fail
    obtain ⟨w2, HW2⟩ := hid_ex (w1.alloc (.cells #[.pointer none, .string ⟨#[]⟩] 48))
    rw [← HW2.out]
    have HB2 : Hid (Below w1.heap.size w1 w2) := by rw [HW2.out]; exact (Below.refl _ _).alloc (Nat.le_refl _) _
    have HL2 : Hid (w2.heap[w1.heap.size]? = some (.cells #[.pointer none, .string ⟨#[]⟩] 48)) := by rw [HW2.out]; exact World.alloc_heap_new _ _
    have HBW2 : Hid (Below W.heap.size W w2) := HB1.out.trans (HB2.out.mono HB1.out.size)
    have HX2 : Hid (w2.heap[W.heap.size]? = _) := (HB2.out.block _ (Array.getElem?_eq_some_iff.1 HX1.out).1).trans HX1.out
    clear HW2 HB2 HX1
    refine (start_nil n w2 (.inr (HT.out.below HBW2.out))).mono ?_
    rintro e w3 ⟨rfl, hb3⟩
    rw [← HE.out]
    have HBW3 : Hid (Below W.heap.size W w3) := HBW2.out.trans (hb3.mono HBW2.out.size)
    have HL3 : Hid (w3.heap[w1.heap.size]? = _) := (hb3.block _ (Array.getElem?_eq_some_iff.1 HL2.out).1).trans HL2.out
    have HX3 : Hid (w3.heap[W.heap.size]? = _) := (hb3.block _ (Array.getElem?_eq_some_iff.1 HX2.out).1).trans HX2.out
    clear hb3 HL2 HX2 HBW2
    go_wp2_with fail
    refine (replay_nil n w3 (.inr (HT.out.below HBW3.out))).mono ?_
    rintro e w4 ⟨rfl, hb4⟩
    rw [← HE.out]
    have HBW4 : Hid (Below W.heap.size W w4) := HBW3.out.trans (hb4.mono HBW3.out.size)
    have HL4 : Hid (w4.heap[w1.heap.size]? = _) := (hb4.block _ (Array.getElem?_eq_some_iff.1 HL3.out).1).trans HL3.out
    have HX4 : Hid (w4.heap[W.heap.size]? = _) := (hb4.block _ (Array.getElem?_eq_some_iff.1 HX3.out).1).trans HX3.out
    clear hb4 HL3 HX3 HBW3
    by_cases h1 : n < 1
    · have HEE : Hid (E = 1) := by unfold Hid; rw [HE.out]; unfold nlE; rw [if_neg (by rw [isNo_iff]; omega)]
      have hE := HEE.out
      subst hE
      clear HE HEE
      go_wp2_with fail
      refine (alive12_any _).mono ?_
      rintro e w5 ⟨rfl, hb5⟩
      have HBW5 : Hid (Below W.heap.size W w5) := HBW4.out.trans (hb5.mono HBW4.out.size)
      have HL5 : Hid (w5.heap[w1.heap.size]? = _) := (hb5.block _ (Array.getElem?_eq_some_iff.1 HL4.out).1).trans HL4.out
      have HX5 : Hid (w5.heap[W.heap.size]? = _) := (hb5.block _ (Array.getElem?_eq_some_iff.1 HX4.out).1).trans HX4.out
      clear hb5 HL4 HX4 HBW4
      have x0 := cellW HX5.out 0 (by simp)
      have x1 := cellW HX5.out 1 (by simp)
      simp only [List.getElem_toArray, List.getElem_cons_succ, List.getElem_cons_zero] at x0 x1
      go_wp2_with fail
      refine (HA1.out _ (HR.out.below HBW5.out)).mono ?_
      rintro e w6 ⟨rfl, hb6⟩
      have HBW6 : Hid (Below W.heap.size W w6) := HBW5.out.trans (hb6.mono HBW5.out.size)
      have HL6 : Hid (w6.heap[w1.heap.size]? = _) := (hb6.block _ (Array.getElem?_eq_some_iff.1 HL5.out).1).trans HL5.out
      have HX6 : Hid (w6.heap[W.heap.size]? = _) := (hb6.block _ (Array.getElem?_eq_some_iff.1 HX5.out).1).trans HX5.out
      clear hb6 HL5 HX5 HBW5 x0 x1
      have x0 := cellW HX6.out 0 (by simp)
      have x1 := cellW HX6.out 1 (by simp)
      simp only [List.getElem_toArray, List.getElem_cons_succ, List.getElem_cons_zero] at x0 x1
      go_wp2_with fail
      refine (HA2.out w1.heap.size _ (cellW HL6.out 0 (by simp)) (Array.getElem?_eq_some_iff.1 HL6.out).1 (HR.out.below HBW6.out)).mono ?_
      rintro e w7 ⟨rfl, hb7⟩
      have HBW7 : Hid (Below W.heap.size W w7) := HBW6.out.trans (hb7.mono HBW6.out.size)
      have HL7 : Hid (w7.heap[w1.heap.size]? = _) := (hb7.block _ (Array.getElem?_eq_some_iff.1 HL6.out).1).trans HL6.out
      clear hb7 HL6 HX6 HBW6 x0 x1
      go_wp2_with fail
      refine (lsync_no _ (.inl rfl) w7 (lmade_nil w7)).mono ?_
      rintro e w8 ⟨rfl, hw⟩
      subst w8
      go_wp2_with fail
      refine (lsync_no _ (.inr ⟨_, rfl⟩) w7 (lmade_zero _ w7 (cellW HL7.out 0 (by simp)))).mono ?_
      rintro e w8 ⟨rfl, hw⟩
      subst w8
      go_wp2_with fail
      go_ret
      exact ⟨rfl, HBW7.out⟩
    · by_cases h2 : 1099511627776 < n
      · have HEE : Hid (E = 1) := by unfold Hid; rw [HE.out]; unfold nlE; rw [if_neg (by rw [isNo_iff]; omega)]
        have hE := HEE.out
        subst hE
        clear HE HEE
        go_wp2_with fail
        refine (alive12_any _).mono ?_
        rintro e w5 ⟨rfl, hb5⟩
        have HBW5 : Hid (Below W.heap.size W w5) := HBW4.out.trans (hb5.mono HBW4.out.size)
        have HL5 : Hid (w5.heap[w1.heap.size]? = _) := (hb5.block _ (Array.getElem?_eq_some_iff.1 HL4.out).1).trans HL4.out
        have HX5 : Hid (w5.heap[W.heap.size]? = _) := (hb5.block _ (Array.getElem?_eq_some_iff.1 HX4.out).1).trans HX4.out
        clear hb5 HL4 HX4 HBW4
        have x0 := cellW HX5.out 0 (by simp)
        have x1 := cellW HX5.out 1 (by simp)
        simp only [List.getElem_toArray, List.getElem_cons_succ, List.getElem_cons_zero] at x0 x1
        go_wp2_with fail
        refine (HA1.out _ (HR.out.below HBW5.out)).mono ?_
        rintro e w6 ⟨rfl, hb6⟩
        have HBW6 : Hid (Below W.heap.size W w6) := HBW5.out.trans (hb6.mono HBW5.out.size)
        have HL6 : Hid (w6.heap[w1.heap.size]? = _) := (hb6.block _ (Array.getElem?_eq_some_iff.1 HL5.out).1).trans HL5.out
        have HX6 : Hid (w6.heap[W.heap.size]? = _) := (hb6.block _ (Array.getElem?_eq_some_iff.1 HX5.out).1).trans HX5.out
        clear hb6 HL5 HX5 HBW5 x0 x1
        have x0 := cellW HX6.out 0 (by simp)
        have x1 := cellW HX6.out 1 (by simp)
        simp only [List.getElem_toArray, List.getElem_cons_succ, List.getElem_cons_zero] at x0 x1
        go_wp2_with fail
        refine (HA2.out w1.heap.size _ (cellW HL6.out 0 (by simp)) (Array.getElem?_eq_some_iff.1 HL6.out).1 (HR.out.below HBW6.out)).mono ?_
        rintro e w7 ⟨rfl, hb7⟩
        have HBW7 : Hid (Below W.heap.size W w7) := HBW6.out.trans (hb7.mono HBW6.out.size)
        have HL7 : Hid (w7.heap[w1.heap.size]? = _) := (hb7.block _ (Array.getElem?_eq_some_iff.1 HL6.out).1).trans HL6.out
        clear hb7 HL6 HX6 HBW6 x0 x1
        go_wp2_with fail
        refine (lsync_no _ (.inl rfl) w7 (lmade_nil w7)).mono ?_
        rintro e w8 ⟨rfl, hw⟩
        subst w8
        go_wp2_with fail
        refine (lsync_no _ (.inr ⟨_, rfl⟩) w7 (lmade_zero _ w7 (cellW HL7.out 0 (by simp)))).mono ?_
        rintro e w8 ⟨rfl, hw⟩
        subst w8
        go_wp2_with fail
        go_ret
        exact ⟨rfl, HBW7.out⟩
      · have HEE : Hid (E = 6) := by unfold Hid; rw [HE.out]; unfold nlE; rw [if_pos (by rw [isNo_iff]; omega)]
        have hE := HEE.out
        subst hE
        clear HE HEE
        go_wp2_with fail
        refine (alive12_any _).mono ?_
        rintro e w5 ⟨rfl, hb5⟩
        have HBW5 : Hid (Below W.heap.size W w5) := HBW4.out.trans (hb5.mono HBW4.out.size)
        have HL5 : Hid (w5.heap[w1.heap.size]? = _) := (hb5.block _ (Array.getElem?_eq_some_iff.1 HL4.out).1).trans HL4.out
        have HX5 : Hid (w5.heap[W.heap.size]? = _) := (hb5.block _ (Array.getElem?_eq_some_iff.1 HX4.out).1).trans HX4.out
        clear hb5 HL4 HX4 HBW4
        have x0 := cellW HX5.out 0 (by simp)
        have x1 := cellW HX5.out 1 (by simp)
        simp only [List.getElem_toArray, List.getElem_cons_succ, List.getElem_cons_zero] at x0 x1
        go_wp2_with fail
        refine (HA1.out _ (HR.out.below HBW5.out)).mono ?_
        rintro e w6 ⟨rfl, hb6⟩
        have HBW6 : Hid (Below W.heap.size W w6) := HBW5.out.trans (hb6.mono HBW5.out.size)
        have HL6 : Hid (w6.heap[w1.heap.size]? = _) := (hb6.block _ (Array.getElem?_eq_some_iff.1 HL5.out).1).trans HL5.out
        have HX6 : Hid (w6.heap[W.heap.size]? = _) := (hb6.block _ (Array.getElem?_eq_some_iff.1 HX5.out).1).trans HX5.out
        clear hb6 HL5 HX5 HBW5 x0 x1
        have x0 := cellW HX6.out 0 (by simp)
        have x1 := cellW HX6.out 1 (by simp)
        simp only [List.getElem_toArray, List.getElem_cons_succ, List.getElem_cons_zero] at x0 x1
        go_wp2_with fail
        refine (HA2.out w1.heap.size _ (cellW HL6.out 0 (by simp)) (Array.getElem?_eq_some_iff.1 HL6.out).1 (HR.out.below HBW6.out)).mono ?_
        rintro e w7 ⟨rfl, hb7⟩
        have HBW7 : Hid (Below W.heap.size W w7) := HBW6.out.trans (hb7.mono HBW6.out.size)
        have HL7 : Hid (w7.heap[w1.heap.size]? = _) := (hb7.block _ (Array.getElem?_eq_some_iff.1 HL6.out).1).trans HL6.out
        clear hb7 HL6 HX6 HBW6 x0 x1
        go_wp2_with fail
        refine (lsync_no _ (.inl rfl) w7 (lmade_nil w7)).mono ?_
        rintro e w8 ⟨rfl, hw⟩
        subst w8
        go_wp2_with fail
        refine (lsync_no _ (.inr ⟨_, rfl⟩) w7 (lmade_zero _ w7 (cellW HL7.out 0 (by simp)))).mono ?_
        rintro e w8 ⟨rfl, hw⟩
        subst w8
        go_wp2_with fail
        go_ret
        exact ⟨rfl, HBW7.out⟩
end Go.Proofs.YtahigmjpeicemaaDoor
