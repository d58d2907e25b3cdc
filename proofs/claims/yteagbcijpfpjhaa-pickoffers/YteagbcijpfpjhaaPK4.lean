/- slices.Index, Contains of whole numbers; IndexFunc, ContainsFunc of runs. -/
import Derived.Test.YteagbcijpfpjhaaPK3
import Derived.Shelf.GgClosure.Gives
import Derived.BigQuiet
import Derived.Deep.QuietTactic
namespace Go.Proofs.Yteagbcijpfpjhaa
open Go.RowKit Go.Shelf

theorem Reads.ptr {w : World} {a : Option Addr} {n cap : Nat} {l : List Int} (h : Reads w (.slice a n cap) l) (h0 : 0 < l.length) : ∃ b off, a = some ⟨b, off, none⟩ ∧ b < w.heap.size := by
  obtain ⟨b, off, h1, h2, _⟩ := h.at 0 h0
  exact ⟨b, off, h1, h2⟩
set_option maxRecDepth 100000 in
theorem index_any (v : Value) (l : List Int) (x : Int) (w : World) (hR : Reads w v l) :
    Calls Try.prog 39 #[v, .int .i64 x] w fun e w' => ∃ z : Int, e = .returned (.int .i64 z) ∧ (0 ≤ z ↔ x ∈ l) ∧ w' = w := by
  have HR : Hid (Reads w v l) := hR
  obtain ⟨a, cap, rfl, hl⟩ := hR.form
  clear hR
  unfold maxLen at hl
  go_enter Try.func39, Try.ntmps39
  go_wp2_with fail
  go_loopw [8] (fun i wr => ∃ k : Nat, k ≤ l.length ∧ i = .int .i64 (k : Int) ∧ Hid (∀ j (hj : j < l.length), j < k → l[j] ≠ x) ∧ wr = w) (fun i _ => l.length - (intOf i).toNat)
  case atStart => exact ⟨0, by omega, rfl, fun j hj h => absurd h (by omega), rfl⟩
  case round =>
    obtain ⟨k, hk, rfl, HP, rfl⟩ := hrel
    by_cases hlt : k < l.length
    · obtain ⟨b, off, rfl, hb, hc⟩ := HR.out.at k hlt
      obtain ⟨y, Hy⟩ := hid_ex l[k]
      rw [← Hy.out] at hc
      unfold ic at hc
      by_cases hxy : x = y
      · have hbe : (x == y) = true := by simpa using hxy
        have HM : Hid (x ∈ l) := by
          unfold Hid
          rw [hxy, Hy.out]
          exact List.getElem_mem hlt
        clear hxy
        go_wp2_with fail
        go_ret
        exact ⟨(k : Int), rfl, ⟨fun _ => HM.out, fun _ => by omega⟩, rfl⟩
      · have hbe : (x == y) = false := by simpa using hxy
        have HN : Hid (∀ j (hj : j < l.length), j < k + 1 → l[j] ≠ x) := by
          intro j hj hjk
          rcases Nat.lt_or_ge j k with h9 | h9
          · exact HP.out j hj h9
          · obtain rfl : j = k := by omega
            rw [← Hy.out]
            exact fun e => hxy e.symm
        clear hxy
        go_wp2_with fail
        go_roundw
        case rel => exact ⟨k + 1, by omega, by go_num, HN.out, by first | rfl | trivial⟩
        case measure => simp [intOf]; omega
    · have HN : Hid (x ∉ l) := by
        intro h
        obtain ⟨j, hj, e⟩ := List.getElem_of_mem h
        exact HP.out j hj (by omega) e
      go_wp2_with fail
      go_ret
      exact ⟨-1, rfl, ⟨fun h => absurd h (by decide), fun h => absurd h HN.out⟩, rfl⟩
def has (l : List Int) (x : Int) : Bool := l.contains x
theorem has_iff {l : List Int} {x : Int} : has l x = true ↔ x ∈ l := by unfold has; simp
set_option maxRecDepth 100000 in
theorem contains_any (v : Value) (l : List Int) (x : Int) (w : World) (hR : Reads w v l) :
    Calls Try.prog 33 #[v, .int .i64 x] w fun e w' => e = .returned (.bool (has l x)) ∧ w' = w := by
  have HR : Hid (Reads w v l) := hR
  obtain ⟨a, cap, rfl, hl⟩ := hR.form
  clear hR
  obtain ⟨b, Hb⟩ := hid_ex (has l x)
  rw [← Hb.out]
  go_enter Try.func33, Try.ntmps33
  go_wp2_with fail
  refine (index_any _ l x _ HR.out).mono ?_
  rintro e w' ⟨z, rfl, hz, hw⟩
  subst w'
  cases b with
  | true =>
    have h0 : 0 ≤ z := hz.2 (has_iff.1 Hb.out.symm)
    clear hz
    go_wp2_with fail
    go_ret
    exact ⟨rfl, rfl⟩
  | false =>
    have h0 : ¬ 0 ≤ z := fun h => by
      have := has_iff.2 (hz.1 h)
      rw [← Hb.out] at this
      cases this
    have h1 : decide (0 ≤ z) = false := decide_eq_false h0
    clear hz h0
    go_wp2_with fail
    go_ret
    exact ⟨by first | rfl | (rw [h1]; rfl) | (simp at h1; simp; omega), rfl⟩
/-- What a function value says of runs, as long as what lay in w lies there. -/
def Says (w : World) (g : Nat) (lb : Array Value) (p : Rn → Bool) : Prop :=
  ∀ (W : World) (r : Rn), Below w.heap.size w W → Calls Try.prog g (#[.agg #[.int .i64 r.f, .int .i64 r.l, .int .i64 r.c, .bool r.s]] ++ lb) W fun e w' => e = .returned (.bool (p r)) ∧ Below W.heap.size W w'
set_option maxRecDepth 100000 in
theorem indexF_any (p : Rn → Bool) (g : Nat) (lv : Value) (eg : ∀ args w, (callFunc g args).run Try.prog w = .ok (.enter g args) w) (v : Value) (L : List Rn) (w : World) (hR : NReads w v L) (hp : Says w g #[lv] p) :
    Calls Try.prog 37 #[v, .func (.func g) #[] #[lv]] w fun e w' => Below w.heap.size w w' ∧ ((∃ k, ∃ hk : k < L.length, e = .returned (.int .i64 (k : Int)) ∧ p L[k] = true ∧ ∀ j (hj : j < L.length), j < k → p L[j] = false) ∨ (e = .returned (.int .i64 (-1)) ∧ ∀ r ∈ L, p r = false)) := by
  have HR : Hid (NReads w v L) := hR
  have HS : Hid (Says w g #[lv] p) := hp
  obtain ⟨a, cap, rfl, hl1, hl2⟩ := hR.form
  clear hR hp
  unfold maxLen at hl2
  go_enter Try.func37, Try.ntmps37
  go_wp2_with fail
  go_loopw [8] (fun i wr => ∃ k : Nat, k ≤ L.length ∧ i = .int .i64 (k : Int) ∧ Hid (∀ j (hj : j < L.length), j < k → p L[j] = false) ∧ Hid (Below w.heap.size w wr)) (fun i _ => L.length - (intOf i).toNat)
  case atStart => exact ⟨0, by omega, rfl, fun j hj h => absurd h (by omega), Below.refl _ _⟩
  case round =>
    obtain ⟨k, hk, rfl, HP, HB⟩ := hrel
    by_cases hlt : k < L.length
    · obtain ⟨b, off, rfl, hb⟩ := HR.out.ptr (by omega)
      obtain ⟨r, Hr⟩ := hid_ex L[k]
      obtain ⟨c0, c1, c2, c3⟩ := (HR.out.below HB.out).four hlt r Hr.out
      go_wp2_with fail
      refine (HS.out _ r HB.out).mono ?_
      rintro e w' ⟨rfl, hb'⟩
      have HBn : Hid (Below w.heap.size w w') := HB.out.trans (hb'.mono HB.out.size)
      clear hb' c0 c1 c2 c3
      obtain ⟨q, Hq⟩ := hid_ex (p r)
      rw [← Hq.out]
      cases q with
      | true =>
        have HT : Hid (p L[k] = true) := by unfold Hid; rw [← Hr.out, ← Hq.out]
        go_wp2_with fail
        go_ret
        exact ⟨HBn.out, .inl ⟨k, hlt, rfl, HT.out, HP.out⟩⟩
      | false =>
        have HN : Hid (∀ j (hj : j < L.length), j < k + 1 → p L[j] = false) := by
          intro j hj hjk
          rcases Nat.lt_or_ge j k with h9 | h9
          · exact HP.out j hj h9
          · obtain rfl : j = k := by omega
            rw [← Hr.out, ← Hq.out]
        go_wp2_with fail
        go_roundw
        case rel => exact ⟨k + 1, by omega, by go_num, HN.out, HBn.out⟩
        case measure => simp [intOf]; omega
    · have HN : Hid (∀ r ∈ L, p r = false) := by
        intro r hr
        obtain ⟨j, hj, rfl⟩ := List.getElem_of_mem hr
        exact HP.out j hj (by omega)
      go_wp2_with fail
      go_ret
      exact ⟨HB.out, .inr ⟨rfl, HN.out⟩⟩
set_option maxRecDepth 100000 in
theorem containsF_any (p : Rn → Bool) (g : Nat) (lv : Value) (eg : ∀ args w, (callFunc g args).run Try.prog w = .ok (.enter g args) w) (v : Value) (L : List Rn) (w : World) (hR : NReads w v L) (hp : Says w g #[lv] p) :
    Calls Try.prog 31 #[v, .func (.func g) #[] #[lv]] w fun e w' => e = .returned (.bool (L.any p)) ∧ Below w.heap.size w w' := by
  have HR : Hid (NReads w v L) := hR
  have HS : Hid (Says w g #[lv] p) := hp
  have HE : Hid (∀ args w, (callFunc g args).run Try.prog w = .ok (.enter g args) w) := eg
  obtain ⟨a, cap, rfl, hl1, hl2⟩ := hR.form
  clear hR hp
  obtain ⟨q, Hq⟩ := hid_ex (L.any p)
  rw [← Hq.out]
  go_enter Try.func31, Try.ntmps31
  go_wp2_with fail
  refine (indexF_any p g lv HE.out _ L _ HR.out HS.out).mono ?_
  rintro e w' ⟨hb, ⟨k, hk, rfl, h1, h2⟩ | ⟨rfl, h1⟩⟩
  · have HB : Hid (Below w.heap.size w w') := hb
    have HT : Hid (q = true) := by
      unfold Hid
      rw [Hq.out, List.any_eq_true]
      exact ⟨_, List.getElem_mem hk, h1⟩
    clear hb h1 h2
    go_wp2_with fail
    go_ret
    exact ⟨by rw [HT.out]; rfl, HB.out⟩
  · have HB : Hid (Below w.heap.size w w') := hb
    have HT : Hid (q = false) := by
      unfold Hid
      rw [Hq.out, List.any_eq_false]
      intro r hr
      rw [h1 r hr]
      simp
    clear hb h1
    go_wp2_with fail
    go_ret
    exact ⟨by rw [HT.out]; rfl, HB.out⟩
/-- The test of full: a run of the level, with more than it may have. -/
def overP (lv m : Int) (r : Rn) : Bool := decide (r.l = lv) && decide (m < r.c)
set_option maxRecDepth 100000 in
theorem full1_says (lv m : Int) (hlm : (lv = 1 ∧ m = 64) ∨ (lv = 2 ∧ m = 256)) (B : Nat) (w : World) (hB : B < w.heap.size) (hc : w.cell? ⟨B, 0, none⟩ = some (.int .i64 lv)) : Says w 32 #[.pointer (some ⟨B, 0, none⟩)] (overP lv m) := by
  intro W r hb
  have hcW : W.cell? ⟨B, 0, none⟩ = some (.int .i64 lv) := (hb.cell (p := ⟨B, 0, none⟩) hB).trans hc
  have hBW : B < W.heap.size := Nat.lt_of_lt_of_le hB hb.size
  have hne : B ≠ W.heap.size := by omega
  show Calls Try.prog 32 #[.agg #[.int .i64 r.f, .int .i64 r.l, .int .i64 r.c, .bool r.s], .pointer (some ⟨B, 0, none⟩)] W _
  clear hb hc
  obtain ⟨q, Hq⟩ := hid_ex (overP lv m r)
  rw [← Hq.out]
  obtain ⟨w0, Hw0⟩ := hid_ex (W.alloc (.cells #[.int .i64 r.f, .int .i64 r.l, .int .i64 r.c, .bool r.s] 48))
  have hb0 : Below W.heap.size W w0 := by rw [Hw0.out]; exact (Below.refl _ _).alloc (Nat.le_refl _) _
  have hx0 : w0.heap[W.heap.size]? = some (.cells (r4 r).toArray 48) := by rw [Hw0.out]; exact heap_alloc_new _ _
  obtain ⟨d0, d1, d2, d3⟩ := box4 hx0
  have hc0 := (hb0.cell (p := ⟨B, 0, none⟩) hBW).trans hcW
  have HB0 : Hid _ := hb0
  clear hb0 hx0 hcW
  by_cases hl : r.l = lv
  · have hbe : (r.l == lv) = true := by simpa using hl
    rcases hlm with ⟨rfl, rfl⟩ | ⟨rfl, rfl⟩
    · have HV : Hid (q = decide (64 < r.c)) := by
        unfold Hid
        rw [Hq.out]
        simp [overP, hl]
      clear hl
      go_enter Try.func32, Try.ntmps32
      go_wp2_with fail
      rw [← Hw0.out]
      go_quiet (fail)
      go_wp2_with fail
      go_ret
      refine ⟨?_, (below_drewN HB0.out _)⟩
      rw [HV.out]
      rfl
    · have HV : Hid (q = decide (256 < r.c)) := by
        unfold Hid
        rw [Hq.out]
        simp [overP, hl]
      clear hl
      go_enter Try.func32, Try.ntmps32
      go_wp2_with fail
      rw [← Hw0.out]
      go_quiet (fail)
      go_wp2_with fail
      go_ret
      refine ⟨?_, (below_drewN HB0.out _)⟩
      rw [HV.out]
      rfl
  · have hbe : (r.l == lv) = false := by simpa using hl
    have HV : Hid (q = false) := by
      unfold Hid
      rw [Hq.out]
      simp [overP, hl]
    clear hl
    go_enter Try.func32, Try.ntmps32
    go_wp2_with fail
    rw [← Hw0.out]
    go_quiet (fail)
    go_wp2_with fail
    go_ret
    refine ⟨?_, (below_drewN HB0.out _)⟩
    rw [HV.out]
    rfl
end Go.Proofs.Yteagbcijpfpjhaa
