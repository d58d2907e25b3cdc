/- place; slices.Clone and Delete of runs. -/
import Derived.Test.YteagbcijpfpjhaaPK12
import Derived.Deep.RegionLaw
import Derived.Lib.SliceRun
import Derived.Laws.OwnMore
namespace Go.Proofs.Yteagbcijpfpjhaa
open Go.RowKit Go.Shelf

def isF (f : Int) (r : Rn) : Bool := decide (r.f = f)
theorem eg_place1 : ∀ args w, (callFunc 38 args).run Try.prog w = .ok (.enter 38 args) w := enters_of Try.func38 (by kernel_rfl) rfl
set_option maxRecDepth 100000 in
theorem place1_says (f : Int) (B : Nat) (w : World) (hB : B < w.heap.size) (hc : w.cell? ⟨B, 0, none⟩ = some (.int .i64 f)) : Says w 38 #[.pointer (some ⟨B, 0, none⟩)] (isF f) := by
  intro W r hb
  have hcW : W.cell? ⟨B, 0, none⟩ = some (.int .i64 f) := (hb.cell (p := ⟨B, 0, none⟩) hB).trans hc
  have hBW : B < W.heap.size := Nat.lt_of_lt_of_le hB hb.size
  show Calls Try.prog 38 #[.agg #[.int .i64 r.f, .int .i64 r.l, .int .i64 r.c, .bool r.s], .pointer (some ⟨B, 0, none⟩)] W _
  clear hb hc
  obtain ⟨q, Hq⟩ := hid_ex (isF f r)
  rw [← Hq.out]
  have hne : B ≠ W.heap.size := by omega
  by_cases hl : r.f = f
  · have hbe : (r.f == f) = true := by simpa using hl
    have HV : Hid (q = true) := by
      unfold Hid
      rw [Hq.out]
      exact decide_eq_true hl
    clear hl
    go_enter Try.func38, Try.ntmps38
    go_wp2_with fail
    go_ret
    refine ⟨?_, (Below.refl _ _).alloc (Nat.le_refl _) _⟩
    rw [HV.out]
    rfl
  · have hbe : (r.f == f) = false := by simpa using hl
    have HV : Hid (q = false) := by
      unfold Hid
      rw [Hq.out]
      exact decide_eq_false hl
    clear hl
    go_enter Try.func38, Try.ntmps38
    go_wp2_with fail
    go_ret
    refine ⟨?_, (Below.refl _ _).alloc (Nat.le_refl _) _⟩
    rw [HV.out]
    rfl
/-- What place answers. -/
def PlPost (L : List Rn) (f : Int) (e : Ending) : Prop := (∃ k, ∃ hk : k < L.length, e = .returned (.int .i64 (k : Int)) ∧ L[k].f = f ∧ ∀ j (hj : j < L.length), j < k → L[j].f ≠ f) ∨ (e = .returned (.int .i64 (-1)) ∧ ∀ r ∈ L, r.f ≠ f)
set_option maxRecDepth 100000 in
theorem place_any (v : Value) (L : List Rn) (f : Int) (w : World) (hR : NReads w v L) : Calls Try.prog 30 #[v, .int .i64 f] w fun e w' => Below w.heap.size w w' ∧ PlPost L f e := by
  have HR : Hid (NReads w v L) := hR
  obtain ⟨a, cap, rfl, hl1, hl2⟩ := hR.form
  clear hR
  have hb : Below w.heap.size w (w.alloc (.cells #[.int .i64 f] 3)) := (Below.refl _ _).alloc (Nat.le_refl _) _
  have HB : Hid _ := hb
  go_enter Try.func30, Try.ntmps30
  go_wp2_with fail
  refine (indexF_any (isF f) _ _ eg_place1 _ L _ (HR.out.below HB.out) (place1_says f w.heap.size _ (by simp) (by simp))).mono ?_
  rintro e w' ⟨hb', hp⟩
  have HB' : Hid (Below w.heap.size w w') := HB.out.trans (hb'.mono HB.out.size)
  have HP : Hid (PlPost L f e) := by
    rcases hp with ⟨k, hk, h1, h2, h3⟩ | ⟨h1, h2⟩
    · exact .inl ⟨k, hk, h1, by simpa [isF] using h2, fun j hj hjk => by simpa [isF] using h3 j hj hjk⟩
    · exact .inr ⟨h1, fun r hr => by simpa [isF] using h2 r hr⟩
  clear hb' hb
  rcases hp with ⟨k, hk, rfl, _, _⟩ | ⟨rfl, _⟩
  · go_wp2_with fail
    go_ret
    exact ⟨HB'.out, HP.out⟩
  · go_wp2_with fail
    go_ret
    exact ⟨HB'.out, HP.out⟩
theorem flat_len (L : List Rn) : (L.flatMap r4).length = L.length * 4 := by
  induction L with
  | nil => rfl
  | cons r L ih => rw [List.flatMap_cons, List.length_append, ih, r4_len, List.length_cons]; omega
theorem one_flat (L : List Rn) : ∀ u ∈ L.flatMap r4, u.oneCell' = true := by
  intro u hu
  obtain ⟨r, _, h⟩ := List.mem_flatMap.1 hu
  exact oneR4 u h
theorem news_flat {w : World} {b off n cap : Nat} {L : List Rn} (h : NReads w (.slice (some ⟨b, off, none⟩) n cap) L) : ∀ j u, (L.flatMap r4)[j]? = some u → w.cell? ((⟨b, off, none⟩ : Addr).add j) = some u := by
  intro j u hj
  have hl : j < L.length * 4 := by
    have := (List.getElem?_eq_some_iff.1 hj).1
    rwa [flat_len] at this
  have hq : j / 4 < L.length := by omega
  have e : j = 4 * (j / 4) + j % 4 := by omega
  rw [e, flat4 L (j / 4) (j % 4) hq (by omega)] at hj
  have := h.at hq (j % 4) (by omega)
  have ea : (⟨b, off, none⟩ : Addr).add j = ⟨b, off + j, none⟩ := by simp [Addr.add]
  rw [ea, show off + j = off + j / 4 * 4 + j % 4 by omega, this, ← hj, List.getElem?_eq_getElem (by rw [r4_len]; omega)]
  rfl
set_option maxRecDepth 100000 in
theorem clone_any (v : Value) (L : List Rn) (w : World) (hR : NReads w v L) (h64 : L.length ≤ 1000) : Calls Try.prog 35 #[v] w fun e w' => ∃ v', e = .returned v' ∧ NOwn 48 w' w.heap.size v' L ∧ Below w.heap.size w w' := by
  have HR : Hid (NReads w v L) := hR
  obtain ⟨a, cap, rfl, hl1, hl2⟩ := hR.form
  clear hR
  have q22 : ∀ (w : World) (a : Option Addr) (n c n' c' : Nat), (binOp .eql 22 (.slice a n c) (.slice none n' c')).run Try.prog w = .ok (.bool a.isNone) w := fun w a n c n' c' => Lib.run_eql_slice_nil w _ _ a n c n' c' Try.underlying22
  cases a with
  | none =>
    have hL : L = [] := by
      rcases Nat.eq_zero_or_pos L.length with h | h
      · exact List.length_eq_zero_iff.1 h
      · obtain ⟨b, off, e, _⟩ := HR.out.ptr h
        cases e
    subst hL
    go_enter Try.func35, Try.ntmps35
    go_wp2_with fail
    go_ret
    exact ⟨_, rfl, NOwn.nil _ _ _, Below.refl _ _⟩
  | some ad =>
    obtain ⟨i0, hi, hz0, hz1, hz2⟩ := info_parts infoN
    have hn : ∀ j u, (L.flatMap r4)[j]? = some u → (w.alloc (.cells #[] 48)).cell? (ad.add j) = some u := by
      intro j u hj
      rcases Nat.eq_zero_or_pos L.length with h | h
      · rw [List.length_eq_zero_iff.1 h] at hj; simp at hj
      · obtain ⟨b, off, e, _⟩ := HR.out.ptr h
        cases e
        exact news_flat (HR.out.below ((Below.refl _ _).alloc (Nat.le_refl _) _)) j u hj
    have hown0 : (w.alloc (.cells #[] 48)).ownsRow w.heap.size 48 4 (.slice (some ⟨w.heap.size, 0, none⟩) 0 0) 0 [] := ⟨rfl, .inr ⟨w.heap.size, 0, #[], rfl, Nat.le_refl _, heap_alloc_new _ _, Nat.le_refl _, by simp [maxLen], rfl, rfl⟩⟩
    obtain ⟨v', w', hrun, hown', hgrow, _⟩ := run_append_own (P := Try.prog) (w.alloc (.cells #[] 48)) w.heap.size 22 22 48 i0 _ 4 32 Try.underlying22 hi hz0 hz1 hz2 rfl (by decide) _ 0 [] hown0 ad L.length cap (L.flatMap r4) (flat_len L) hn (one_flat L) (by unfold maxLen; omega) (by omega) (by simp)
    have HO : Hid (NOwn 48 w' w.heap.size v' L) := ⟨by rw [Nat.zero_add, List.nil_append] at hown'; exact hown', HR.out.ok⟩
    have HB : Hid (Below w.heap.size w w') := ((Below.refl _ _).alloc (Nat.le_refl _) _).grown hgrow (by simp) (fun k e => by cases e; exact Nat.le_refl _)
    clear hn hown0 hown' hgrow hi hz0 hz1 hz2
    go_enter Try.func35, Try.ntmps35
    go_wp2_with (at_builtin; refine wpList_app_run rfl _ _ _ _ rfl rfl _ _ _ rfl rfl hrun ?_)
    clear hrun
    (try go_wp2_with fail)
    go_ret
    exact ⟨_, rfl, HO.out, HB.out⟩
end Go.Proofs.Yteagbcijpfpjhaa
