/- MFj MFk MF1 MF2, joined. -/
import Derived.Test.YtoibfepnecppmaaDoorMK2
import Derived.Test.YtoibfepnecppmaaDoorMK11
import Derived.Sort.Grow
import Derived.Shelf.Abstract
/- manifest: the order of runs. -/
namespace Go.Proofs.YtoibfepnecppmaaDoor
open Go.RowKit

def cmp13 (a b : Int) : Int := if a < b then -1 else if b < a then 1 else 0
def or13 (x y : Int) : Int := if x = 0 then y else x
def ord13 (a b : Ru) : Int := or13 (cmp13 a.l b.l) (cmp13 b.f a.f)
theorem isNaN13_any (a : Int) (w : World) : Calls Tryd.prog 68 #[.int .i64 a] w fun e w' => e = .returned (.bool false) ∧ w' = w := by
  go_enter Tryd.func68, Tryd.ntmps68
  go_wp2_with fail
  go_ret
  exact ⟨by simp, rfl⟩
theorem cmp13_any (a b : Int) (w : World) : Calls Tryd.prog 49 #[.int .i64 a, .int .i64 b] w fun e w' => e = .returned (.int .i64 (cmp13 a b)) ∧ w' = w := by
  go_enter Tryd.func49, Tryd.ntmps49
  go_wp2_with fail
  refine (isNaN13_any _ _).mono ?_
  rintro e w1 ⟨rfl, hw1⟩
  subst w1
  go_wp2_with fail
  refine (isNaN13_any _ _).mono ?_
  rintro e w1 ⟨rfl, hw1⟩
  subst w1
  by_cases h1 : a < b
  · have HZ : Hid (cmp13 a b = -1) := by unfold Hid cmp13; rw [if_pos h1]
    go_wp2_with fail
    go_ret
    exact ⟨by rw [HZ.out]; rfl, rfl⟩
  · by_cases h2 : b < a
    · have HZ : Hid (cmp13 a b = 1) := by unfold Hid cmp13; rw [if_neg h1, if_pos h2]
      go_wp2_with fail
      go_ret
      exact ⟨by rw [HZ.out]; rfl, rfl⟩
    · have HZ : Hid (cmp13 a b = 0) := by unfold Hid cmp13; rw [if_neg h1, if_neg h2]
      go_wp2_with fail
      go_ret
      exact ⟨by rw [HZ.out]; rfl, rfl⟩
set_option maxRecDepth 100000 in
theorem or13_any (x y : Int) (g : Nat) (w : World) (h0 : w.cell? ⟨g, 0, none⟩ = some (.int .i64 x)) (h1 : w.cell? ⟨g, 1, none⟩ = some (.int .i64 y)) : Calls Tryd.prog 48 #[.slice (some ⟨g, 0, none⟩) 2 2] w fun e w' => e = .returned (.int .i64 (or13 x y)) ∧ w' = w := by
  have H0 : Hid (w.cell? ⟨g, 0, none⟩ = some (.int .i64 x)) := h0
  have H1 : Hid (w.cell? ⟨g, 1, none⟩ = some (.int .i64 y)) := h1
  clear h0 h1
  go_enter Tryd.func48, Tryd.ntmps48
  go_wp2_with fail
  go_loopw [8] (fun i wr => ∃ j : Nat, i = .int .i64 (j : Int) ∧ j ≤ 2 ∧ wr = w ∧ Hid (0 < j → x = 0) ∧ Hid (1 < j → y = 0)) (fun i _ => 2 - (intOf i).toNat)
  case atStart => exact ⟨0, rfl, by omega, rfl, fun h => absurd h (by omega), fun h => absurd h (by omega)⟩
  case round =>
    obtain ⟨j, rfl, hj, rfl, HX, HY⟩ := hrel
    rcases (by omega : j = 0 ∨ j = 1 ∨ j = 2) with rfl | rfl | rfl
    · have c0 := H0.out
      by_cases hx : x = 0
      · subst hx
        go_wp2_with fail
        go_roundw
        case rel => exact ⟨1, rfl, by omega, trivial, (by intro _; trivial), fun h => absurd h (by omega)⟩
        case measure => simp [intOf]
      · have hx' : (x != 0) = true := by simpa using hx
        have HV : Hid (or13 x y = x) := by unfold Hid or13; rw [if_neg hx]
        go_wp2_with fail
        go_ret
        exact ⟨by rw [HV.out]; rfl, rfl⟩
    · have c1 := H1.out
      by_cases hy : y = 0
      · subst hy
        go_wp2_with fail
        go_roundw
        case rel => exact ⟨2, rfl, by omega, trivial, fun _ => HX.out (by omega), (by intro _; trivial)⟩
        case measure => simp [intOf]
      · have hy' : (y != 0) = true := by simpa using hy
        have HV : Hid (or13 x y = y) := by unfold Hid or13; rw [if_pos (HX.out (by omega))]
        go_wp2_with fail
        go_ret
        exact ⟨by rw [HV.out]; rfl, rfl⟩
    · have HV : Hid (or13 x y = 0) := by unfold Hid or13; rw [if_pos (HX.out (by omega))]; exact HY.out (by omega)
      go_wp2_with fail
      go_ret
      exact ⟨by rw [HV.out]; rfl, rfl⟩
/-- Blocks behind a world, and draws. -/
def Grew (W w' : World) : Prop := ∃ q os, w' = Go.Sort.grow (W.drewN q) os
set_option maxRecDepth 100000 in
set_option maxHeartbeats 2000000 in
theorem order13_any (a b : Ru) (W : World) : Calls Tryd.prog 33 #[.agg #[.int .i64 a.f, .int .i64 a.l, .int .i64 a.c], .agg #[.int .i64 b.f, .int .i64 b.l, .int .i64 b.c]] W fun e w' => e = .returned (.int .i64 (ord13 a b)) ∧ Grew W w' := by
  go_enter Tryd.func33, Tryd.ntmps33
  go_wp2_with fail
  obtain ⟨W1, HW1⟩ := hid_ex (((W.alloc (.cells #[.int .i64 a.f, .int .i64 a.l, .int .i64 a.c] 52)).alloc (.cells #[.int .i64 b.f, .int .i64 b.l, .int .i64 b.c] 52)).drew)
  have HG : Hid (W1 = Go.Sort.grow W.drew #[.cells #[.int .i64 a.f, .int .i64 a.l, .int .i64 a.c] 52, .cells #[.int .i64 b.f, .int .i64 b.l, .int .i64 b.c] 52]) := by
    unfold Hid; rw [HW1.out, Go.Sort.alloc_eq_grow, Go.Sort.alloc_eq_grow, Go.Sort.grow_grow]; rfl
  have hsz : W1.heap.size = W.heap.size + 2 := by rw [HW1.out]; simp [World.drew]
  have HX : Hid (W1.heap[W.heap.size]? = some (.cells (r3L a).toArray 52)) := by
    unfold Hid; rw [HW1.out]; exact (Below.heap_alloc _ _ _ (by simp)).trans (heap_alloc_new _ _)
  have HY : Hid (W1.heap[W.heap.size + 1]? = some (.cells (r3L b).toArray 52)) := by
    unfold Hid; rw [HW1.out]; have := heap_alloc_new (W.alloc (.cells #[.int .i64 a.f, .int .i64 a.l, .int .i64 a.c] 52)) (.cells #[.int .i64 b.f, .int .i64 b.l, .int .i64 b.c] 52); rw [World.size_alloc] at this; exact this
  have HSz : Hid (W1.heap.size = W.heap.size + 2) := hsz
  have HC : Hid ((W1.cell? ⟨W.heap.size, 0, none⟩ = some (.int .i64 a.f) ∧ W1.cell? ⟨W.heap.size, 1, none⟩ = some (.int .i64 a.l)) ∧ W1.cell? ⟨W.heap.size + 1, 0, none⟩ = some (.int .i64 b.f) ∧ W1.cell? ⟨W.heap.size + 1, 1, none⟩ = some (.int .i64 b.l)) := ⟨⟨(three HX.out).1, (three HX.out).2.1⟩, (three HY.out).1, (three HY.out).2.1⟩
  clear hsz
  obtain ⟨x, Hx⟩ := hid_ex (cmp13 a.l b.l)
  obtain ⟨y, Hy⟩ := hid_ex (cmp13 b.f a.f)
  have HO : Hid (ord13 a b = or13 x y) := by unfold Hid ord13; rw [Hx.out, Hy.out]
  have HBa : Hid (Below W1.heap.size W1 (W1.alloc (.cells #[.int .i64 x, .int .i64 y] 3))) := (Below.refl _ _).alloc (Nat.le_refl _) _
  have HN : Hid ((W1.alloc (.cells #[.int .i64 x, .int .i64 y] 3)).cell? ⟨W1.heap.size, 0, none⟩ = some (.int .i64 x) ∧ (W1.alloc (.cells #[.int .i64 x, .int .i64 y] 3)).cell? ⟨W1.heap.size, 1, none⟩ = some (.int .i64 y)) := by
    have e := heap_alloc_new W1 (.cells #[.int .i64 x, .int .i64 y] 3)
    exact ⟨by simp only [World.cell?, e]; rfl, by simp only [World.cell?, e]; rfl⟩
  have HC2 : Hid (((W1.alloc (.cells #[.int .i64 x, .int .i64 y] 3)).cell? ⟨W.heap.size, 0, none⟩ = some (.int .i64 a.f) ∧ (W1.alloc (.cells #[.int .i64 x, .int .i64 y] 3)).cell? ⟨W.heap.size, 1, none⟩ = some (.int .i64 a.l)) ∧ (W1.alloc (.cells #[.int .i64 x, .int .i64 y] 3)).cell? ⟨W.heap.size + 1, 0, none⟩ = some (.int .i64 b.f) ∧ (W1.alloc (.cells #[.int .i64 x, .int .i64 y] 3)).cell? ⟨W.heap.size + 1, 1, none⟩ = some (.int .i64 b.l)) := by
    have e := HSz.out
    refine ⟨⟨(HBa.out.cell (p := ⟨_, _, none⟩) ?_).trans HC.out.1.1, (HBa.out.cell (p := ⟨_, _, none⟩) ?_).trans HC.out.1.2⟩, (HBa.out.cell (p := ⟨_, _, none⟩) ?_).trans HC.out.2.1, (HBa.out.cell (p := ⟨_, _, none⟩) ?_).trans HC.out.2.2⟩ <;> (simp only; omega)
  have HE : Hid (Grew W (W1.alloc (.cells #[.int .i64 x, .int .i64 y] 3))) := ⟨1, _, by rw [Go.Sort.alloc_eq_grow, HG.out, Go.Sort.grow_grow]; rfl⟩
  refine wp_region_noPanic ?_
  refine wp_region_held_drew (S := fun w' => (w'.cell? ⟨W.heap.size, 0, none⟩ = some (.int .i64 a.f) ∧ w'.cell? ⟨W.heap.size, 1, none⟩ = some (.int .i64 a.l)) ∧ w'.cell? ⟨W.heap.size + 1, 0, none⟩ = some (.int .i64 b.f) ∧ w'.cell? ⟨W.heap.size + 1, 1, none⟩ = some (.int .i64 b.l)) (by kernel_rfl) ?_ (fun hHeld => ?_)
  · (rw [← HW1.out]; exact HC.out)
  rw [← HW1.out]
  clear HW1
  refine wpAnyH_take (i := 0) (v := .pointer (some ⟨W.heap.size, 1, none⟩)) rfl (by kernel_rfl) (by kernel_rfl) (by kernel_rfl) (fun _ _ _ h => h) (Or.inl ⟨by rfl, ?_⟩) (by assumption) ?_
  · (intro w1 hSw; (try dsimp only at hSw); go_simp)
  simp only [List.getElem_toArray, List.getElem_cons_zero, Act.put, List.setIfInBounds_toArray, List.set_cons_zero, List.set_cons_succ]
  refine wpAnyH_take (i := 1) (v := .int .i64 a.l) rfl (by kernel_rfl) (by kernel_rfl) (by kernel_rfl) (fun _ _ _ h => h) (Or.inl ⟨by rfl, ?_⟩) (by assumption) ?_
  · (intro w1 hSw; (try dsimp only at hSw); go_simp)
  simp only [List.getElem_toArray, List.getElem_cons_succ, List.getElem_cons_zero, Act.put, List.setIfInBounds_toArray, List.set_cons_zero, List.set_cons_succ]
  refine wpAnyH_take (i := 2) (v := .pointer (some ⟨W.heap.size + 1, 1, none⟩)) rfl (by kernel_rfl) (by kernel_rfl) (by kernel_rfl) (fun _ _ _ h => h) (Or.inl ⟨by rfl, ?_⟩) (by assumption) ?_
  · (intro w1 hSw; (try dsimp only at hSw); go_simp)
  simp only [List.getElem_toArray, List.getElem_cons_succ, List.getElem_cons_zero, Act.put, List.setIfInBounds_toArray, List.set_cons_zero, List.set_cons_succ]
  refine wpAnyH_take (i := 3) (v := .int .i64 b.l) rfl (by kernel_rfl) (by kernel_rfl) (by kernel_rfl) (fun _ _ _ h => h) (Or.inl ⟨by rfl, ?_⟩) (by assumption) ?_
  · (intro w1 hSw; (try dsimp only at hSw); go_simp)
  simp only [List.getElem_toArray, List.getElem_cons_succ, List.getElem_cons_zero, Act.put, List.setIfInBounds_toArray, List.set_cons_zero, List.set_cons_succ]
  refine wpAnyH_take (i := 5) (v := .pointer (some ⟨W.heap.size + 1, 0, none⟩)) rfl (by kernel_rfl) (by kernel_rfl) (by kernel_rfl) (fun _ _ _ h => h) (Or.inl ⟨by rfl, ?_⟩) (by assumption) ?_
  · (intro w1 hSw; (try dsimp only at hSw); go_simp)
  simp only [List.getElem_toArray, List.getElem_cons_succ, List.getElem_cons_zero, Act.put, List.setIfInBounds_toArray, List.set_cons_zero, List.set_cons_succ]
  refine wpAnyH_take (i := 6) (v := .int .i64 b.f) rfl (by kernel_rfl) (by kernel_rfl) (by kernel_rfl) (fun _ _ _ h => h) (Or.inl ⟨by rfl, ?_⟩) (by assumption) ?_
  · (intro w1 hSw; (try dsimp only at hSw); go_simp)
  simp only [List.getElem_toArray, List.getElem_cons_succ, List.getElem_cons_zero, Act.put, List.setIfInBounds_toArray, List.set_cons_zero, List.set_cons_succ]
  refine wpAnyH_take (i := 7) (v := .pointer (some ⟨W.heap.size, 0, none⟩)) rfl (by kernel_rfl) (by kernel_rfl) (by kernel_rfl) (fun _ _ _ h => h) (Or.inl ⟨by rfl, ?_⟩) (by assumption) ?_
  · (intro w1 hSw; (try dsimp only at hSw); go_simp)
  simp only [List.getElem_toArray, List.getElem_cons_succ, List.getElem_cons_zero, Act.put, List.setIfInBounds_toArray, List.set_cons_zero, List.set_cons_succ]
  refine wpAnyH_take (i := 8) (v := .int .i64 a.f) rfl (by kernel_rfl) (by kernel_rfl) (by kernel_rfl) (fun _ _ _ h => h) (Or.inl ⟨by rfl, ?_⟩) (by assumption) ?_
  · (intro w1 hSw; (try dsimp only at hSw); go_simp)
  simp only [List.getElem_toArray, List.getElem_cons_succ, List.getElem_cons_zero, Act.put, List.setIfInBounds_toArray, List.set_cons_zero, List.set_cons_succ]
  refine wpAnyH_ready (rs := [4]) (by kernel_rfl) (by simp) ?_
  refine AllReadyH.cons (o := _) rfl (fun K hK => ?_) AllReadyH.nil
  go_simp
  refine (cmp13_any _ _ _).mono ?_
  rintro e w1 ⟨rfl, hw1⟩
  subst w1
  rw [← Hx.out]
  go_simp
  refine hK.out _ _ ?_ (fun hHeld => ?_)
  · exact HC.out
  clear hK K
  refine wpAnyH_ready (rs := [9]) (by kernel_rfl) (by simp) ?_
  refine AllReadyH.cons (o := _) rfl (fun K hK => ?_) AllReadyH.nil
  go_simp
  refine (cmp13_any _ _ _).mono ?_
  rintro e w1 ⟨rfl, hw1⟩
  subst w1
  rw [← Hy.out]
  go_simp
  refine hK.out _ _ ?_ (fun hHeld => ?_)
  · exact HC.out
  clear hK K
  refine wpAnyH_ready (rs := [10]) (by kernel_rfl) (by simp) ?_
  refine AllReadyH.cons (o := _) rfl (fun K hK => ?_) AllReadyH.nil
  go_simp
  refine hK.out _ _ ?_ (fun hHeld => ?_)
  · exact HC2.out
  clear hK K
  refine wpAnyH_ready (rs := [11]) (by kernel_rfl) (by simp) ?_
  refine AllReadyH.cons (o := _) rfl (fun K hK => ?_) AllReadyH.nil
  go_simp
  refine (or13_any x y _ _ HN.out.1 HN.out.2).mono ?_
  rintro e w1 ⟨rfl, hw1⟩
  subst w1
  rw [← HO.out]
  go_simp
  refine hK.out _ _ ?_ (fun hHeld => ?_)
  · exact HC2.out
  clear hK K
  refine wpAnyH_ready (rs := [12]) (by kernel_rfl) (by simp) ?_
  refine AllReadyH.cons (o := _) rfl (fun K hK => ?_) AllReadyH.nil
  go_simp
  refine hK.out _ _ ?_ (fun hHeld => ?_)
  · exact HC2.out
  clear hK K
  refine wpAnyH_done (by kernel_rfl) ?_ _
  refine NoPanic.normal ?_
  go_wp2_with fail
  go_ret
  exact ⟨rfl, HE.out⟩
end Go.Proofs.YtoibfepnecppmaaDoor

/- manifest: place. -/
namespace Go.Proofs.YtoibfepnecppmaaDoor
open Go.RowKit Go.Shelf

/-- What a function value says of runs, as long as what lay in w lies there. -/
def Says13 (w : World) (g : Nat) (lb : Array Value) (p : Ru → Bool) : Prop :=
  ∀ (W : World) (r : Ru), Below w.heap.size w W → Calls Tryd.prog g (#[.agg #[.int .i64 r.f, .int .i64 r.l, .int .i64 r.c]] ++ lb) W fun e w' => e = .returned (.bool (p r)) ∧ Below W.heap.size W w'
set_option maxRecDepth 100000 in
theorem indexF13_any (p : Ru → Bool) (g : Nat) (lv : Value) (eg : ∀ args w, (callFunc g args).run Tryd.prog w = .ok (.enter g args) w) (v : Value) (L : List Ru) (w : World) (hR : RuR w v L) (hp : Says13 w g #[lv] p) :
    Calls Tryd.prog 56 #[v, .func (.func g) #[] #[lv]] w fun e w' => Below w.heap.size w w' ∧ ((∃ k, ∃ hk : k < L.length, e = .returned (.int .i64 (k : Int)) ∧ p L[k] = true ∧ ∀ j (hj : j < L.length), j < k → p L[j] = false) ∨ (e = .returned (.int .i64 (-1)) ∧ ∀ r ∈ L, p r = false)) := by
  have HR : Hid (RuR w v L) := hR
  have HS : Hid (Says13 w g #[lv] p) := hp
  obtain ⟨a, cap, rfl, hl2⟩ := hR.form
  clear hR hp
  unfold maxLen at hl2
  go_enter Tryd.func56, Tryd.ntmps56
  go_wp2_with fail
  go_loopw [8] (fun i wr => ∃ k : Nat, k ≤ L.length ∧ i = .int .i64 (k : Int) ∧ Hid (∀ j (hj : j < L.length), j < k → p L[j] = false) ∧ Hid (Below w.heap.size w wr)) (fun i _ => L.length - (intOf i).toNat)
  case atStart => exact ⟨0, by omega, rfl, fun j hj h => absurd h (by omega), Below.refl _ _⟩
  case round =>
    obtain ⟨k, hk, rfl, HP, HB⟩ := hrel
    by_cases hlt : k < L.length
    · obtain ⟨r, Hr⟩ := hid_ex L[k]
      obtain ⟨b, off, rfl, hb, c0, c1, c2⟩ := (HR.out.below HB.out).at hlt Hr.out
      go_wp2_with fail
      refine (HS.out _ r HB.out).mono ?_
      rintro e w' ⟨rfl, hb'⟩
      have HBn : Hid (Below w.heap.size w w') := HB.out.trans (hb'.mono HB.out.size)
      clear hb' c0 c1 c2
      obtain ⟨q, Hq⟩ := hid_ex (p r)
      rw [← Hq.out]
      cases q with
      | true =>
        have HT : Hid (p L[k] = true) := by unfold Hid; rw [← Hr.out, ← Hq.out]
        go_wp2_with fail
        go_ret
        exact ⟨HBn.out, .inl ⟨k, hlt, rfl, HT.out, HP.out⟩⟩
      | false =>
        have HN : Hid (∀ j (hj : j < L.length), j < k + 1 → p L[j] = false) := by
          intro j hj hjk
          rcases Nat.lt_or_ge j k with h9 | h9
          · exact HP.out j hj h9
          · obtain rfl : j = k := by omega
            rw [← Hr.out, ← Hq.out]
        go_wp2_with fail
        go_roundw
        case rel => exact ⟨k + 1, by omega, by go_num, HN.out, HBn.out⟩
        case measure => simp [intOf]; omega
    · have HN : Hid (∀ r ∈ L, p r = false) := by
        intro r hr
        obtain ⟨j, hj, rfl⟩ := List.getElem_of_mem hr
        exact HP.out j hj (by omega)
      go_wp2_with fail
      go_ret
      exact ⟨HB.out, .inr ⟨rfl, HN.out⟩⟩
theorem eg_place13 : ∀ args w, (callFunc 57 args).run Tryd.prog w = .ok (.enter 57 args) w := enters_of Tryd.func57 (by kernel_rfl) rfl
def isF13 (f : Int) (r : Ru) : Bool := decide (r.f = f)
set_option maxRecDepth 100000 in
theorem place13_says (f : Int) (B : Nat) (w : World) (hB : B < w.heap.size) (hc : w.cell? ⟨B, 0, none⟩ = some (.int .i64 f)) : Says13 w 57 #[.pointer (some ⟨B, 0, none⟩)] (isF13 f) := by
  intro W r hb
  have hcW : W.cell? ⟨B, 0, none⟩ = some (.int .i64 f) := (hb.cell (p := ⟨B, 0, none⟩) hB).trans hc
  have hBW : B < W.heap.size := Nat.lt_of_lt_of_le hB hb.size
  show Calls Tryd.prog 57 #[.agg #[.int .i64 r.f, .int .i64 r.l, .int .i64 r.c], .pointer (some ⟨B, 0, none⟩)] W _
  clear hb hc
  obtain ⟨q, Hq⟩ := hid_ex (isF13 f r)
  rw [← Hq.out]
  have hne : B ≠ W.heap.size := by omega
  by_cases hl : r.f = f
  · have hbe : (r.f == f) = true := by simpa using hl
    have HV : Hid (q = true) := by
      unfold Hid
      rw [Hq.out]
      exact decide_eq_true hl
    clear hl
    go_enter Tryd.func57, Tryd.ntmps57
    go_wp2_with fail
    go_ret
    refine ⟨?_, (Below.refl _ _).alloc (Nat.le_refl _) _⟩
    rw [HV.out]
    rfl
  · have hbe : (r.f == f) = false := by simpa using hl
    have HV : Hid (q = false) := by
      unfold Hid
      rw [Hq.out]
      exact decide_eq_false hl
    clear hl
    go_enter Tryd.func57, Tryd.ntmps57
    go_wp2_with fail
    go_ret
    refine ⟨?_, (Below.refl _ _).alloc (Nat.le_refl _) _⟩
    rw [HV.out]
    rfl
/-- What place answers. -/
def PlP (L : List Ru) (f : Int) (e : Ending) : Prop := (∃ k, ∃ hk : k < L.length, e = .returned (.int .i64 (k : Int)) ∧ L[k].f = f ∧ ∀ j (hj : j < L.length), j < k → L[j].f ≠ f) ∨ (e = .returned (.int .i64 (-1)) ∧ ∀ r ∈ L, r.f ≠ f)
set_option maxRecDepth 100000 in
theorem place13_any (v : Value) (L : List Ru) (f : Int) (w : World) (hR : RuR w v L) : Calls Tryd.prog 44 #[v, .int .i64 f] w fun e w' => Below w.heap.size w w' ∧ PlP L f e := by
  have HR : Hid (RuR w v L) := hR
  obtain ⟨a, cap, rfl, hl2⟩ := hR.form
  clear hR
  have hb : Below w.heap.size w (w.alloc (.cells #[.int .i64 f] 3)) := (Below.refl _ _).alloc (Nat.le_refl _) _
  have HB : Hid _ := hb
  go_enter Tryd.func44, Tryd.ntmps44
  go_wp2_with fail
  refine (indexF13_any (isF13 f) _ _ eg_place13 _ L _ (HR.out.below HB.out) (place13_says f w.heap.size _ (by simp) (by simp))).mono ?_
  rintro e w' ⟨hb', hp⟩
  have HB' : Hid (Below w.heap.size w w') := HB.out.trans (hb'.mono HB.out.size)
  have HP : Hid (PlP L f e) := by
    rcases hp with ⟨k, hk, h1, h2, h3⟩ | ⟨h1, h2⟩
    · exact .inl ⟨k, hk, h1, by simpa [isF13] using h2, fun j hj hjk => by simpa [isF13] using h3 j hj hjk⟩
    · exact .inr ⟨h1, fun r hr => by simpa [isF13] using h2 r hr⟩
  clear hb' hb
  rcases hp with ⟨k, hk, rfl, _, _⟩ | ⟨rfl, _⟩
  · go_wp2_with fail
    go_ret
    exact ⟨HB'.out, HP.out⟩
  · go_wp2_with fail
    go_ret
    exact ⟨HB'.out, HP.out⟩
end Go.Proofs.YtoibfepnecppmaaDoor

/- manifest: states, plainly: which are right, by neighbours and by pairs. -/
namespace Go.Proofs.YtoibfepnecppmaaDoor
open Go.RowKit

/-- A state. -/
structure St where
  ru : List Ru
  lo : Int
  ne : Int
  ma : Int
/-- Does a run stand ahead of another one? -/
def ahd (a b : Ru) : Prop := a.l < b.l ∨ (a.l = b.l ∧ b.f < a.f)
instance (a b : Ru) : Decidable (ahd a b) := by unfold ahd; infer_instance
theorem ahd_trans {a b c : Ru} (h1 : ahd a b) (h2 : ahd b c) : ahd a c := by unfold ahd at *; omega
theorem ahd_irrefl (a : Ru) : ¬ ahd a a := by unfold ahd; omega
theorem ahd_total {a b : Ru} (h : ¬ ahd a b) (h2 : ¬ ahd b a) : a.l = b.l ∧ a.f = b.f := by unfold ahd at *; omega
/-- May a run be, with files below next? -/
def fitR (r : Ru) (ne : Int) : Prop := 0 ≤ r.l ∧ r.l < 4 ∧ 1 ≤ r.f ∧ r.f < ne ∧ 1 ≤ r.c ∧ r.c ≤ 4096
instance (r : Ru) (ne : Int) : Decidable (fitR r ne) := by unfold fitR; infer_instance
/-- What two runs of a right state are to each other. -/
def prR (a b : Ru) : Prop := ahd a b ∧ a.f ≠ b.f ∧ ¬ (a.l = b.l ∧ 0 < a.l)
instance (a b : Ru) : Decidable (prR a b) := by unfold prR; infer_instance
def okRs (l : List Ru) (ne : Int) : Prop := l.length ≤ 64 ∧ (∀ r ∈ l, fitR r ne) ∧ l.Pairwise prR
def okSt (s : St) : Prop := 1 ≤ s.lo ∧ s.lo < s.ne ∧ s.ne ≤ 1099511627776 ∧ 0 ≤ s.ma ∧ s.ma ≤ 1099511627776 ∧ okRs s.ru s.ne
/-- By neighbours: what the program asks of a run at its place, the one ahead of it given. -/
def nbR (l : List Ru) (i : Nat) (r : Ru) : Prop := (∀ a ∈ l.take i, a.f ≠ r.f) ∧ ∀ a, 0 < i → l[i - 1]? = some a → ahd a r ∧ ¬ (0 < r.l ∧ a.l = r.l)
/-- Neighbours are enough. -/
theorem nb_pairs {l : List Ru} (h : ∀ i (hi : i < l.length), nbR l i l[i]) : l.Pairwise prR := by
  rw [List.pairwise_iff_getElem]
  have hah : ∀ (d i : Nat) (hj : i + 1 + d < l.length), ahd (l[i]'(by omega)) (l[i + 1 + d]'hj) ∧ ¬ ((l[i]'(by omega)).l = (l[i + 1 + d]'hj).l ∧ 0 < (l[i]'(by omega)).l) := by
    intro d
    induction d with
    | zero =>
      intro i hj
      obtain ⟨_, h2⟩ := h (i + 1) (by omega)
      obtain ⟨g1, g2⟩ := h2 (l[i]'(by omega)) (by omega) (by simp [List.getElem?_eq_getElem (show i < l.length by omega)])
      refine ⟨by simpa using g1, fun z => g2 ?_⟩
      simp only [Nat.add_zero] at z
      exact ⟨by rw [← z.1]; exact z.2, z.1⟩
    | succ d ih =>
      intro i hj
      obtain ⟨a1, a2⟩ := ih i (by omega)
      obtain ⟨_, h2⟩ := h (i + 1 + (d + 1)) hj
      obtain ⟨g1, g2⟩ := h2 (l[i + 1 + d]'(by omega)) (by omega) (by
        have : i + 1 + (d + 1) - 1 = i + 1 + d := by omega
        rw [this, List.getElem?_eq_getElem (by omega)])
      refine ⟨ahd_trans a1 g1, fun z => ?_⟩
      have b1 := a1
      have b2 := g1
      unfold ahd at b1 b2
      have e1 : (l[i]'(by omega)).l = (l[i + 1 + d]'(by omega)).l := by omega
      exact a2 ⟨e1, z.2⟩
  intro i j hi hj hij
  obtain ⟨d, rfl⟩ : ∃ d, j = i + 1 + d := ⟨j - (i + 1), by omega⟩
  obtain ⟨a1, a2⟩ := hah d i hj
  refine ⟨a1, ?_, a2⟩
  exact (h (i + 1 + d) hj).1 l[i] (List.mem_take_iff_getElem.2 ⟨i, by omega, rfl⟩)
/-- And pairs tell of neighbours. -/
theorem pairs_nb {l : List Ru} (h : l.Pairwise prR) (i : Nat) (hi : i < l.length) : nbR l i l[i] := by
  rw [List.pairwise_iff_getElem] at h
  refine ⟨fun a ha => ?_, fun a h0 ha => ?_⟩
  · obtain ⟨k, hk, rfl⟩ := List.mem_take_iff_getElem.1 ha
    exact (h k i (by omega) hi (by omega)).2.1
  · have hl : i - 1 < l.length := by omega
    rw [List.getElem?_eq_getElem hl] at ha
    simp only [Option.some.injEq] at ha
    subst ha
    obtain ⟨q1, q2, q3⟩ := h (i - 1) i hl hi (by omega)
    exact ⟨q1, fun z => q3 ⟨z.2, by rw [z.2]; exact z.1⟩⟩
/-- Two rows in their order with the same runs are one. -/
theorem sorted_unique : ∀ {a b : List Ru}, a.Pairwise ahd → b.Pairwise ahd → a.Perm b → a = b
  | [], b, _, _, h => (List.nil_perm.1 h).symm
  | x :: a, [], _, _, h => by have := h.length_eq; simp at this
  | x :: a, y :: b, h1, h2, h => by
    rw [List.pairwise_cons] at h1 h2
    have hx : x ∈ y :: b := h.subset (List.mem_cons_self ..)
    have hy : y ∈ x :: a := h.symm.subset (List.mem_cons_self ..)
    have e : x = y := by
      rcases List.mem_cons.1 hx with q | q
      · exact q
      · rcases List.mem_cons.1 hy with z | z
        · exact z.symm
        · exact absurd (ahd_trans (h2.1 x q) (h1.1 y z)) (ahd_irrefl y)
    subst e
    rw [sorted_unique h1.2 h2.2 (List.Perm.cons_inv h)]
/-- A run goes; none: there is none of that file. -/
def drop1 (l : List Ru) (f : Int) : Option (List Ru) := if l.any (fun r => decide (r.f = f)) = true then some (l.filter fun r => !decide (r.f = f)) else none
def dropF : List Ru → List Int → Option (List Ru)
  | l, [] => some l
  | l, f :: fs => match drop1 l f with
    | none => none
    | some l' => dropF l' fs
/-- Files that are unlike. -/
def unl (l : List Ru) : Prop := l.Pairwise fun a b => a.f ≠ b.f
theorem unl_of {l : List Ru} (h : l.Pairwise prR) : unl l := h.imp fun h => h.2.1
theorem unl_filter {l : List Ru} (h : unl l) (p : Ru → Bool) : unl (l.filter p) := List.Pairwise.filter p h
/-- Where files are unlike, to take the first run of a file away is to take all of them away. -/
theorem drop_at : ∀ {l : List Ru} {i : Nat} (hi : i < l.length), unl l → (∀ j (hj : j < i), (l[j]'(by omega)).f ≠ (l[i]).f) → l.take i ++ l.drop (i + 1) = l.filter fun r => !decide (r.f = (l[i]).f)
  | [], i, hi, _, _ => by simp at hi
  | a :: l, 0, _, h, _ => by
    unfold unl at h
    rw [List.pairwise_cons] at h
    simp only [List.take_zero, List.nil_append, List.drop_succ_cons, List.drop_zero, List.getElem_cons_zero, List.filter_cons, decide_true, Bool.not_true]
    rw [if_neg (by simp)]
    symm
    rw [List.filter_eq_self]
    intro r hr
    have := h.1 r hr
    simp only [Bool.not_eq_true', decide_eq_false_iff_not]
    exact fun e => this e.symm
  | a :: l, i + 1, hi, h, hn => by
    unfold unl at h
    rw [List.pairwise_cons] at h
    have h0 := hn 0 (by omega)
    simp only [List.getElem_cons_zero, List.getElem_cons_succ] at h0
    have ih := drop_at (l := l) (i := i) (by simpa using hi) h.2 fun j hj => by
      have := hn (j + 1) (by omega)
      simpa using this
    simp only [List.take_succ_cons, List.cons_append, List.drop_succ_cons, List.getElem_cons_succ, List.filter_cons]
    rw [if_pos (by simpa using h0), ih]
end Go.Proofs.YtoibfepnecppmaaDoor

/- manifest: what an edit makes of a state, plainly. -/
namespace Go.Proofs.YtoibfepnecppmaaDoor
open Go.RowKit

/-- A run at its place. -/
def putR (r : Ru) : List Ru → List Ru
  | [] => [r]
  | x :: l => if ahd x r then x :: putR r l else r :: x :: l
theorem putR_perm (r : Ru) : ∀ l : List Ru, (putR r l).Perm (r :: l)
  | [] => List.Perm.refl _
  | x :: l => by
    unfold putR
    split
    · exact ((putR_perm r l).cons x).trans (List.Perm.swap r x l)
    · exact List.Perm.refl _
theorem putAll_perm : ∀ (a l : List Ru), (a.foldl (fun l r => putR r l) l).Perm (l ++ a)
  | [], l => by simp
  | r :: a, l => by
    rw [List.foldl_cons]
    refine (putAll_perm a _).trans ?_
    refine ((putR_perm r l).append_right a).trans ?_
    rw [List.cons_append]
    exact List.perm_middle.symm
/-- Rows that are put in one by one are in order, but where two are of one level and one file. -/
def wk (l : List Ru) : Prop := l.Pairwise fun a b => ¬ ahd b a
theorem not_ahd_trans {a b c : Ru} (h1 : ¬ ahd b a) (h2 : ¬ ahd c b) : ¬ ahd c a := by unfold ahd at *; omega
theorem putR_wk {r : Ru} : ∀ {l : List Ru}, wk l → wk (putR r l)
  | [], _ => by unfold putR wk; simp
  | x :: l, h => by
    unfold wk at h
    rw [List.pairwise_cons] at h
    unfold putR
    split
    · rename_i hx
      show List.Pairwise _ (x :: putR r l)
      rw [List.pairwise_cons]
      refine ⟨fun y hy => ?_, putR_wk h.2⟩
      rcases List.mem_cons.1 ((putR_perm r l).subset hy) with rfl | hy
      · unfold ahd at *; omega
      · exact h.1 y hy
    · rename_i hx
      show List.Pairwise _ (r :: x :: l)
      rw [List.pairwise_cons, List.pairwise_cons]
      refine ⟨fun y hy => ?_, h⟩
      rcases List.mem_cons.1 hy with rfl | hy
      · exact hx
      · exact not_ahd_trans hx (h.1 y hy)
theorem putAll_wk : ∀ {a l : List Ru}, wk l → wk (a.foldl (fun l r => putR r l) l)
  | [], _, h => h
  | r :: a, l, h => by rw [List.foldl_cons]; exact putAll_wk (putR_wk h)
/-- Two rows in weak order with the same runs: where the one is right, they are one. -/
theorem wk_right {a b : List Ru} (ha : wk a) (hb : b.Pairwise ahd) (h : a.Perm b) : a = b := by
  have hd : b.Pairwise fun x y => x ≠ y := hb.imp fun q e => by subst e; exact ahd_irrefl _ q
  have hkey : ∀ x ∈ b, ∀ y ∈ b, x.l = y.l → x.f = y.f → x = y := fun x hx y hy e1 e2 => by
    obtain ⟨i, hi, rfl⟩ := List.getElem_of_mem hx
    obtain ⟨j, hj, rfl⟩ := List.getElem_of_mem hy
    rw [List.pairwise_iff_getElem] at hb
    rcases Nat.lt_trichotomy i j with q | q | q
    · have := hb i j hi hj q; unfold ahd at this; omega
    · subst q; rfl
    · have := hb j i hj hi q; unfold ahd at this; omega
  have hna : a.Pairwise fun x y => x ≠ y := (h.pairwise_iff (fun {x y} (q : x ≠ y) => q.symm)).2 hd
  refine sorted_unique ?_ hb h
  have hboth : a.Pairwise fun x y => ¬ ahd y x ∧ x ≠ y := ha.and hna
  refine hboth.imp_of_mem fun {x y} hx hy q => ?_
  by_cases c : ahd x y
  · exact c
  · obtain ⟨e1, e2⟩ := ahd_total c q.1
    exact absurd (hkey x (h.subset hx) y (h.subset hy) e1 e2) q.2
theorem drop1_len {l l' : List Ru} {f : Int} (h : drop1 l f = some l') : l'.length + 1 ≤ l.length := by
  unfold drop1 at h
  split at h
  · rename_i ha
    simp only [Option.some.injEq] at h
    subst h
    rw [List.any_eq_true] at ha
    obtain ⟨r, hr, hf⟩ := ha
    have := List.length_filter_lt_length_iff_exists (p := fun r : Ru => !decide (r.f = f)) |>.2 ⟨r, hr, by simpa using hf⟩
    exact this
  · cases h
theorem dropF_len : ∀ {fs : List Int} {l l' : List Ru}, dropF l fs = some l' → l'.length + fs.length ≤ l.length
  | [], l, l', h => by simp only [dropF, Option.some.injEq] at h; subst h; simp
  | f :: fs, l, l', h => by
    rw [dropF] at h
    cases hd : drop1 l f with
    | none => rw [hd] at h; cases h
    | some m =>
      rw [hd] at h
      have a := drop1_len hd
      have b := dropF_len h
      rw [List.length_cons]; omega
theorem dropF_unl : ∀ {fs : List Int} {l l' : List Ru}, dropF l fs = some l' → unl l → unl l'
  | [], l, l', h, hu => by simp only [dropF, Option.some.injEq] at h; subst h; exact hu
  | f :: fs, l, l', h, hu => by
    rw [dropF] at h
    cases hd : drop1 l f with
    | none => rw [hd] at h; cases h
    | some m =>
      rw [hd] at h
      refine dropF_unl h ?_
      unfold drop1 at hd
      split at hd
      · simp only [Option.some.injEq] at hd
        subst hd
        exact unl_filter hu _
      · cases hd
theorem dropF_ahd : ∀ {fs : List Int} {l l' : List Ru}, dropF l fs = some l' → l.Pairwise ahd → l'.Pairwise ahd
  | [], l, l', h, hu => by simp only [dropF, Option.some.injEq] at h; subst h; exact hu
  | f :: fs, l, l', h, hu => by
    rw [dropF] at h
    cases hd : drop1 l f with
    | none => rw [hd] at h; cases h
    | some m =>
      rw [hd] at h
      refine dropF_ahd h ?_
      unfold drop1 at hd
      split at hd
      · simp only [Option.some.injEq] at hd
        subst hd
        exact List.Pairwise.filter _ hu
      · cases hd
theorem ahd_wk {l : List Ru} (h : l.Pairwise ahd) : wk l := h.imp fun {a b} q z => by unfold ahd at *; omega
/-- A row in weak order that has the runs of 'put in one by one': it is right if and only if that is, and then it is that. -/
theorem sorted_put {l a r : List Ru} (hl : wk l) (hr : wk r) (hp : r.Perm (l ++ a)) (ne : Int) : (okRs r ne ↔ okRs (a.foldl (fun l r => putR r l) l) ne) ∧ (okRs r ne → r = a.foldl (fun l r => putR r l) l) := by
  have hq : r.Perm (a.foldl (fun l r => putR r l) l) := hp.trans (putAll_perm a l).symm
  have hw := putAll_wk (a := a) hl
  have f1 : okRs r ne → r = a.foldl (fun l r => putR r l) l := fun h => (wk_right hw (h.2.2.imp fun q => q.1) hq.symm).symm
  have f2 : okRs (a.foldl (fun l r => putR r l) l) ne → r = a.foldl (fun l r => putR r l) l := fun h => wk_right hr (h.2.2.imp fun q => q.1) hq
  exact ⟨⟨fun h => by rw [← f1 h]; exact h, fun h => by rw [f2 h]; exact h⟩, f1⟩
end Go.Proofs.YtoibfepnecppmaaDoor
