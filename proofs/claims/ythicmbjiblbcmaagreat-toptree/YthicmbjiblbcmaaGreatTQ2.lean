/- PK4 PSo PK5 PK6 PK7, joined. -/
import Derived.Test.YthicmbjiblbcmaaGreatTQ1
import Derived.Shelf.GgClosure.Gives
import Derived.BigQuiet
import Derived.Deep.QuietTactic
import Derived.Shelf.Sort.Plain
import Derived.Shelf.Slices.In.SortNone
import Derived.Test.YthicmbjiblbcmaaGreatRows
import Derived.Sort.OwnSortedInts
/- slices.Index, Contains of whole numbers; IndexFunc, ContainsFunc of runs. -/
namespace Go.Proofs.YthicmbjiblbcmaaGreat
open Go.RowKit Go.Shelf

theorem ReadsP.ptr {w : World} {a : Option Addr} {n cap : Nat} {l : List Int} (h : ReadsP w (.slice a n cap) l) (h0 : 0 < l.length) : ∃ b off, a = some ⟨b, off, none⟩ ∧ b < w.heap.size := by
  obtain ⟨b, off, h1, h2, _⟩ := h.at 0 h0
  exact ⟨b, off, h1, h2⟩
set_option maxRecDepth 100000 in
theorem index_any (v : Value) (l : List Int) (x : Int) (w : World) (hR : ReadsP w v l) :
    Calls Tryz.prog 52 #[v, .int .i64 x] w fun e w' => ∃ z : Int, e = .returned (.int .i64 z) ∧ (0 ≤ z ↔ x ∈ l) ∧ w' = w := by
  have HR : Hid (ReadsP w v l) := hR
  obtain ⟨a, cap, rfl, hl⟩ := hR.form
  clear hR
  unfold maxLen at hl
  go_enter Tryz.func52, Tryz.ntmps52
  go_wp2_with fail
  go_loopw [8] (fun i wr => ∃ k : Nat, k ≤ l.length ∧ i = .int .i64 (k : Int) ∧ Hid (∀ j (hj : j < l.length), j < k → l[j] ≠ x) ∧ wr = w) (fun i _ => l.length - (intOf i).toNat)
  case atStart => exact ⟨0, by omega, rfl, fun j hj h => absurd h (by omega), rfl⟩
  case round =>
    obtain ⟨k, hk, rfl, HP, rfl⟩ := hrel
    by_cases hlt : k < l.length
    · obtain ⟨b, off, rfl, hb, hc⟩ := HR.out.at k hlt
      obtain ⟨y, Hy⟩ := hid_exP l[k]
      rw [← Hy.out] at hc
      unfold ic at hc
      by_cases hxy : x = y
      · have hbe : (x == y) = true := by simpa using hxy
        have HM : Hid (x ∈ l) := by
          unfold Hid
          rw [hxy, Hy.out]
          exact List.getElem_mem hlt
        clear hxy
        go_wp2_with fail
        go_ret
        exact ⟨(k : Int), rfl, ⟨fun _ => HM.out, fun _ => by omega⟩, rfl⟩
      · have hbe : (x == y) = false := by simpa using hxy
        have HN : Hid (∀ j (hj : j < l.length), j < k + 1 → l[j] ≠ x) := by
          intro j hj hjk
          rcases Nat.lt_or_ge j k with h9 | h9
          · exact HP.out j hj h9
          · obtain rfl : j = k := by omega
            rw [← Hy.out]
            exact fun e => hxy e.symm
        clear hxy
        go_wp2_with fail
        go_roundw
        case rel => exact ⟨k + 1, by omega, by go_num, HN.out, by first | rfl | trivial⟩
        case measure => simp [intOf]; omega
    · have HN : Hid (x ∉ l) := by
        intro h
        obtain ⟨j, hj, e⟩ := List.getElem_of_mem h
        exact HP.out j hj (by omega) e
      go_wp2_with fail
      go_ret
      exact ⟨-1, rfl, ⟨fun h => absurd h (by decide), fun h => absurd h HN.out⟩, rfl⟩
def has (l : List Int) (x : Int) : Bool := l.contains x
theorem has_iff {l : List Int} {x : Int} : has l x = true ↔ x ∈ l := by unfold has; simp
set_option maxRecDepth 100000 in
theorem contains_any (v : Value) (l : List Int) (x : Int) (w : World) (hR : ReadsP w v l) :
    Calls Tryz.prog 30 #[v, .int .i64 x] w fun e w' => e = .returned (.bool (has l x)) ∧ w' = w := by
  have HR : Hid (ReadsP w v l) := hR
  obtain ⟨a, cap, rfl, hl⟩ := hR.form
  clear hR
  obtain ⟨b, Hb⟩ := hid_exP (has l x)
  rw [← Hb.out]
  go_enter Tryz.func30, Tryz.ntmps30
  go_wp2_with fail
  refine (index_any _ l x _ HR.out).mono ?_
  rintro e w' ⟨z, rfl, hz, hw⟩
  subst w'
  cases b with
  | true =>
    have h0 : 0 ≤ z := hz.2 (has_iff.1 Hb.out.symm)
    clear hz
    go_wp2_with fail
    go_ret
    exact ⟨rfl, rfl⟩
  | false =>
    have h0 : ¬ 0 ≤ z := fun h => by
      have := has_iff.2 (hz.1 h)
      rw [← Hb.out] at this
      cases this
    have h1 : decide (0 ≤ z) = false := decide_eq_false h0
    clear hz h0
    go_wp2_with fail
    go_ret
    exact ⟨by first | rfl | (rw [h1]; rfl) | (simp at h1; simp; omega), rfl⟩
/-- What a function value says of runs, as long as what lay in w lies there. -/
def Says (w : World) (g : Nat) (lb : Array Value) (p : Rn → Bool) : Prop :=
  ∀ (W : World) (r : Rn), Below w.heap.size w W → Calls Tryz.prog g (#[.agg #[.int .i64 r.f, .int .i64 r.l, .int .i64 r.c, .bool r.s]] ++ lb) W fun e w' => e = .returned (.bool (p r)) ∧ Below W.heap.size W w'
set_option maxRecDepth 100000 in
theorem indexF_any (p : Rn → Bool) (g : Nat) (lv : Value) (eg : ∀ args w, (callFunc g args).run Tryz.prog w = .ok (.enter g args) w) (v : Value) (L : List Rn) (w : World) (hR : NReads w v L) (hp : Says w g #[lv] p) :
    Calls Tryz.prog 51 #[v, .func (.func g) #[] #[lv]] w fun e w' => Below w.heap.size w w' ∧ ((∃ k, ∃ hk : k < L.length, e = .returned (.int .i64 (k : Int)) ∧ p L[k] = true ∧ ∀ j (hj : j < L.length), j < k → p L[j] = false) ∨ (e = .returned (.int .i64 (-1)) ∧ ∀ r ∈ L, p r = false)) := by
  have HR : Hid (NReads w v L) := hR
  have HS : Hid (Says w g #[lv] p) := hp
  obtain ⟨a, cap, rfl, hl1, hl2⟩ := hR.form
  clear hR hp
  unfold maxLen at hl2
  go_enter Tryz.func51, Tryz.ntmps51
  go_wp2_with fail
  go_loopw [8] (fun i wr => ∃ k : Nat, k ≤ L.length ∧ i = .int .i64 (k : Int) ∧ Hid (∀ j (hj : j < L.length), j < k → p L[j] = false) ∧ Hid (Below w.heap.size w wr)) (fun i _ => L.length - (intOf i).toNat)
  case atStart => exact ⟨0, by omega, rfl, fun j hj h => absurd h (by omega), Below.refl _ _⟩
  case round =>
    obtain ⟨k, hk, rfl, HP, HB⟩ := hrel
    by_cases hlt : k < L.length
    · obtain ⟨b, off, rfl, hb⟩ := HR.out.ptr (by omega)
      obtain ⟨r, Hr⟩ := hid_exP L[k]
      obtain ⟨c0, c1, c2, c3⟩ := (HR.out.below HB.out).four hlt r Hr.out
      go_wp2_with fail
      refine (HS.out _ r HB.out).mono ?_
      rintro e w' ⟨rfl, hb'⟩
      have HBn : Hid (Below w.heap.size w w') := HB.out.trans (hb'.mono HB.out.size)
      clear hb' c0 c1 c2 c3
      obtain ⟨q, Hq⟩ := hid_exP (p r)
      rw [← Hq.out]
      cases q with
      | true =>
        have HT : Hid (p L[k] = true) := by unfold Hid; rw [← Hr.out, ← Hq.out]
        go_wp2_with fail
        go_ret
        exact ⟨HBn.out, .inl ⟨k, hlt, rfl, HT.out, HP.out⟩⟩
      | false =>
        have HN : Hid (∀ j (hj : j < L.length), j < k + 1 → p L[j] = false) := by
          intro j hj hjk
          rcases Nat.lt_or_ge j k with h9 | h9
          · exact HP.out j hj h9
          · obtain rfl : j = k := by omega
            rw [← Hr.out, ← Hq.out]
        go_wp2_with fail
        go_roundw
        case rel => exact ⟨k + 1, by omega, by go_num, HN.out, HBn.out⟩
        case measure => simp [intOf]; omega
    · have HN : Hid (∀ r ∈ L, p r = false) := by
        intro r hr
        obtain ⟨j, hj, rfl⟩ := List.getElem_of_mem hr
        exact HP.out j hj (by omega)
      go_wp2_with fail
      go_ret
      exact ⟨HB.out, .inr ⟨rfl, HN.out⟩⟩
set_option maxRecDepth 100000 in
theorem containsF_any (p : Rn → Bool) (g : Nat) (lv : Value) (eg : ∀ args w, (callFunc g args).run Tryz.prog w = .ok (.enter g args) w) (v : Value) (L : List Rn) (w : World) (hR : NReads w v L) (hp : Says w g #[lv] p) :
    Calls Tryz.prog 28 #[v, .func (.func g) #[] #[lv]] w fun e w' => e = .returned (.bool (L.any p)) ∧ Below w.heap.size w w' := by
  have HR : Hid (NReads w v L) := hR
  have HS : Hid (Says w g #[lv] p) := hp
  have HE : Hid (∀ args w, (callFunc g args).run Tryz.prog w = .ok (.enter g args) w) := eg
  obtain ⟨a, cap, rfl, hl1, hl2⟩ := hR.form
  clear hR hp
  obtain ⟨q, Hq⟩ := hid_exP (L.any p)
  rw [← Hq.out]
  go_enter Tryz.func28, Tryz.ntmps28
  go_wp2_with fail
  refine (indexF_any p g lv HE.out _ L _ HR.out HS.out).mono ?_
  rintro e w' ⟨hb, ⟨k, hk, rfl, h1, h2⟩ | ⟨rfl, h1⟩⟩
  · have HB : Hid (Below w.heap.size w w') := hb
    have HT : Hid (q = true) := by
      unfold Hid
      rw [Hq.out, List.any_eq_true]
      exact ⟨_, List.getElem_mem hk, h1⟩
    clear hb h1 h2
    go_wp2_with fail
    go_ret
    exact ⟨by rw [HT.out]; rfl, HB.out⟩
  · have HB : Hid (Below w.heap.size w w') := hb
    have HT : Hid (q = false) := by
      unfold Hid
      rw [Hq.out, List.any_eq_false]
      intro r hr
      rw [h1 r hr]
      simp
    clear hb h1
    go_wp2_with fail
    go_ret
    exact ⟨by rw [HT.out]; rfl, HB.out⟩
/-- The test of full: a run of the level, with more than it may have. -/
def overP (lv m : Int) (r : Rn) : Bool := decide (r.l = lv) && decide (m < r.c)
set_option maxRecDepth 100000 in
theorem full1_says (lv m : Int) (hlm : (lv = 1 ∧ m = 64) ∨ (lv = 2 ∧ m = 256)) (B : Nat) (w : World) (hB : B < w.heap.size) (hc : w.cell? ⟨B, 0, none⟩ = some (.int .i64 lv)) : Says w 29 #[.pointer (some ⟨B, 0, none⟩)] (overP lv m) := by
  intro W r hb
  have hcW : W.cell? ⟨B, 0, none⟩ = some (.int .i64 lv) := (hb.cell (p := ⟨B, 0, none⟩) hB).trans hc
  have hBW : B < W.heap.size := Nat.lt_of_lt_of_le hB hb.size
  have hne : B ≠ W.heap.size := by omega
  show Calls Tryz.prog 29 #[.agg #[.int .i64 r.f, .int .i64 r.l, .int .i64 r.c, .bool r.s], .pointer (some ⟨B, 0, none⟩)] W _
  clear hb hc
  obtain ⟨q, Hq⟩ := hid_exP (overP lv m r)
  rw [← Hq.out]
  obtain ⟨w0, Hw0⟩ := hid_exP (W.alloc (.cells #[.int .i64 r.f, .int .i64 r.l, .int .i64 r.c, .bool r.s] 47))
  have hb0 : Below W.heap.size W w0 := by rw [Hw0.out]; exact (Below.refl _ _).alloc (Nat.le_refl _) _
  have hx0 : w0.heap[W.heap.size]? = some (.cells (r4 r).toArray 47) := by rw [Hw0.out]; exact heap_alloc_new _ _
  obtain ⟨d0, d1, d2, d3⟩ := box4 hx0
  have hc0 := (hb0.cell (p := ⟨B, 0, none⟩) hBW).trans hcW
  have HB0 : Hid _ := hb0
  clear hb0 hx0 hcW
  by_cases hl : r.l = lv
  · have hbe : (r.l == lv) = true := by simpa using hl
    rcases hlm with ⟨rfl, rfl⟩ | ⟨rfl, rfl⟩
    · have HV : Hid (q = decide (64 < r.c)) := by
        unfold Hid
        rw [Hq.out]
        simp [overP, hl]
      clear hl
      go_enter Tryz.func29, Tryz.ntmps29
      go_wp2_with fail
      rw [← Hw0.out]
      go_quiet (fail)
      go_wp2_with fail
      go_ret
      refine ⟨?_, (below_drewN HB0.out _)⟩
      rw [HV.out]
      rfl
    · have HV : Hid (q = decide (256 < r.c)) := by
        unfold Hid
        rw [Hq.out]
        simp [overP, hl]
      clear hl
      go_enter Tryz.func29, Tryz.ntmps29
      go_wp2_with fail
      rw [← Hw0.out]
      go_quiet (fail)
      go_wp2_with fail
      go_ret
      refine ⟨?_, (below_drewN HB0.out _)⟩
      rw [HV.out]
      rfl
  · have hbe : (r.l == lv) = false := by simpa using hl
    have HV : Hid (q = false) := by
      unfold Hid
      rw [Hq.out]
      simp [overP, hl]
    clear hl
    go_enter Tryz.func29, Tryz.ntmps29
    go_wp2_with fail
    rw [← Hw0.out]
    go_quiet (fail)
    go_wp2_with fail
    go_ret
    refine ⟨?_, (below_drewN HB0.out _)⟩
    rw [HV.out]
    rfl
end Go.Proofs.YthicmbjiblbcmaaGreat

/- The library's sort of whole numbers, at this program (written by mkpso.py). -/
namespace Go.Proofs.YthicmbjiblbcmaaGreat
open Go.Shelf Go.Sort Go.RowKit

def lays189_ren : Go.Shelf.Ren := ⟨fun | 189 => 31 | 125 => 54 | 257 => 53 | 128 => 86 | 129 => 87 | 294 => 77 | 295 => 78 | 296 => 79 | 297 => 80 | 298 => 81 | 299 => 82 | 216 => 83 | 300 => 84 | 301 => 85 | 328 => 97 | 329 => 98 | 330 => 99 | 331 => 100 | 332 => 101 | 215 => 102 | 343 => 107 | n => n, fun | 28 => 36 | 3 => 3 | 46 => 126 | 0 => 0 | 51 => 156 | 53 => 50 | 4 => 4 | 183 => 149 | 182 => 148 | 131 => 153 | 5 => 5 | 9 => 9 | 218 => 169 | 222 => 173 | 228 => 180 | 229 => 181 | n => n, fun | n => n⟩
theorem lays189 : Go.Proofs.Lays.n189 Tryz.prog lays189_ren := {
  mixed := by kernel_rfl
  f125 := Tryz.func54.trans (congrArg some (by kernel_rfl))
  f128 := Tryz.func86.trans (congrArg some (by kernel_rfl))
  f129 := Tryz.func87.trans (congrArg some (by kernel_rfl))
  f189 := Tryz.func31.trans (congrArg some (by kernel_rfl))
  f215 := Tryz.func102.trans (congrArg some (by kernel_rfl))
  f216 := Tryz.func83.trans (congrArg some (by kernel_rfl))
  f257 := Tryz.func53.trans (congrArg some (by kernel_rfl))
  f294 := Tryz.func77.trans (congrArg some (by kernel_rfl))
  f295 := Tryz.func78.trans (congrArg some (by kernel_rfl))
  f296 := Tryz.func79.trans (congrArg some (by kernel_rfl))
  f297 := Tryz.func80.trans (congrArg some (by kernel_rfl))
  f298 := Tryz.func81.trans (congrArg some (by kernel_rfl))
  f299 := Tryz.func82.trans (congrArg some (by kernel_rfl))
  f300 := Tryz.func84.trans (congrArg some (by kernel_rfl))
  f301 := Tryz.func85.trans (congrArg some (by kernel_rfl))
  f328 := Tryz.func97.trans (congrArg some (by kernel_rfl))
  f329 := Tryz.func98.trans (congrArg some (by kernel_rfl))
  f330 := Tryz.func99.trans (congrArg some (by kernel_rfl))
  f331 := Tryz.func100.trans (congrArg some (by kernel_rfl))
  f332 := Tryz.func101.trans (congrArg some (by kernel_rfl))
  f343 := Tryz.func107.trans (congrArg some (by kernel_rfl))
  t0 := Tryz.underlying0
  a0 := Tryz.isAgg0
  z0 := Tryz.sizeOf0
  v0 := Tryz.zeroValue0
  t3 := Tryz.underlying3
  a3 := Tryz.isAgg3
  z3 := Tryz.sizeOf3
  v3 := Tryz.zeroValue3
  t4 := Tryz.underlying4
  a4 := Tryz.isAgg4
  z4 := Tryz.sizeOf4
  v4 := Tryz.zeroValue4
  t5 := Tryz.underlying5
  a5 := Tryz.isAgg5
  z5 := Tryz.sizeOf5
  v5 := Tryz.zeroValue5
  t9 := Tryz.underlying9
  a9 := Tryz.isAgg9
  z9 := Tryz.sizeOf9
  v9 := Tryz.zeroValue9
  t28 := Tryz.underlying36
  a28 := Tryz.isAgg36
  z28 := Tryz.sizeOf36
  v28 := Tryz.zeroValue36
  t46 := Tryz.underlying126
  a46 := Tryz.isAgg126
  z46 := Tryz.sizeOf126
  v46 := Tryz.zeroValue126
  t51 := Tryz.underlying156
  a51 := Tryz.isAgg156
  z51 := Tryz.sizeOf156
  v51 := Tryz.zeroValue156
  t53 := Tryz.underlying50
  a53 := Tryz.isAgg50
  z53 := Tryz.sizeOf50
  v53 := Tryz.zeroValue50
  t131 := Tryz.underlying153
  a131 := Tryz.isAgg153
  z131 := Tryz.sizeOf153
  v131 := Tryz.zeroValue153
  t182 := Tryz.underlying148
  a182 := Tryz.isAgg148
  z182 := Tryz.sizeOf148
  v182 := Tryz.zeroValue148
  t183 := Tryz.underlying149
  a183 := Tryz.isAgg149
  z183 := Tryz.sizeOf149
  v183 := Tryz.zeroValue149
  t218 := Tryz.underlying169
  a218 := Tryz.isAgg169
  z218 := Tryz.sizeOf169
  v218 := Tryz.zeroValue169
  t222 := Tryz.underlying173
  a222 := Tryz.isAgg173
  z222 := Tryz.sizeOf173
  v222 := Tryz.zeroValue173
  t228 := Tryz.underlying180
  a228 := Tryz.isAgg180
  z228 := Tryz.sizeOf180
  v228 := Tryz.zeroValue180
  t229 := Tryz.underlying181
  a229 := Tryz.isAgg181
  z229 := Tryz.sizeOf181
  v229 := Tryz.zeroValue181 }
theorem slices_Sort_int (blk off cap : Nat) (zs : List Int) (w : World) (hH : Holds (Value.int .i64) w blk off zs.toArray) (hblk : blk < w.heap.size) (hsz : zs.length < 4611686018427387904) :
    Calls Tryz.prog 31 #[.slice (some ⟨blk, off, none⟩) zs.length cap] w fun e w' =>
      e = .returned (.tuple #[]) ∧ ∃ n os, w' = grow (putRow (Value.int .i64) (Sort.ahead w n) blk off (zs.mergeSort fun x y => decide (x ≤ y)).toArray) os := Any.slices_Sort_int lays189 blk off cap zs w hH hblk hsz
theorem slices_Sort_int_none (p : Option Addr) (cap : Nat) (w : World) :
    Calls Tryz.prog 31 #[.slice p 0 cap] w fun e w' => e = .returned (.tuple #[]) ∧ w' = w := Any.slices_Sort_int_none lays189 p cap w
end Go.Proofs.YthicmbjiblbcmaaGreat

/- The library's sort, of numbers of one's own. -/
namespace Go.Proofs.YthicmbjiblbcmaaGreat
open Go.RowKit Go.Shelf Go.Sort

def srt (l : List Int) : List Int := l.mergeSort fun x y => decide (x ≤ y)
theorem srt_len (l : List Int) : (srt l).length = l.length := by unfold srt; simp
theorem srt_perm (l : List Int) : (srt l).Perm l := List.mergeSort_perm _ _
theorem srt_sorted (l : List Int) : (srt l).Pairwise (fun x y => x ≤ y) := by
  have := List.pairwise_mergeSort (le := fun x y : Int => decide (x ≤ y)) (by intro a b c; simp; omega) (by intro a b; simp; omega) l
  exact this.imp (by simp)
theorem sort_any (v : Value) (l : List Int) (base : Nat) (w : World) (hO : OwnP w base v l) (hb : base ≤ w.heap.size) (hl : l.length ≤ 1000000) :
    Calls Tryz.prog 31 #[v] w fun e w' => e = .returned (.tuple #[]) ∧ OwnP w' base v (srt l) ∧ Below base w w' := by
  have hO2 := hO
  have hown := own_blockP hO
  rcases hO with ⟨h1, ⟨rfl, h2⟩ | ⟨g, cap, cur, rfl, hg, hw, hc, hm, hs, ht⟩⟩
  · refine (slices_Sort_int_none none 0 w).mono ?_
    rintro e w' ⟨rfl, rfl⟩
    have : l = [] := List.length_eq_zero_iff.1 h2
    subst this
    exact ⟨rfl, by rw [show srt [] = [] from by simp [srt]]; exact OwnP.nil _ _, Below.refl _ _⟩
  · refine (slices_Sort_int g 0 cap l w (holds_of_blockI hw (by rw [Nat.mul_one] at ht; exact ht)) (Array.getElem?_eq_some_iff.1 hw).1 (by omega)).mono ?_
    rintro e w' ⟨rfl, n, os, rfl⟩
    refine ⟨rfl, ?_, (Below.refl _ _).grown (grownBy_sortedI _) hb (fun j hj => by cases hj; exact hg)⟩
    unfold OwnP
    rw [srt_len]
    exact ownsRow_sortedI (srt_len l) hg hw hc hm hs
end Go.Proofs.YthicmbjiblbcmaaGreat

/- The contract of filesOf. -/
namespace Go.Proofs.YthicmbjiblbcmaaGreat
open Go.RowKit Go.Shelf

/-- The files of the runs of some levels, as they stand. -/
def pkF (ls : List Int) (L : List Rn) : List Int := (L.filter fun r => has ls r.l).map Rn.f
def filF (ls : List Int) (L : List Rn) : List Int := srt (pkF ls L)
theorem pkF_len (ls : List Int) (L : List Rn) : (pkF ls L).length ≤ L.length := by
  unfold pkF
  rw [List.length_map]
  exact List.length_filter_le _ _
theorem pkF_take (ls : List Int) (L : List Rn) (k : Nat) (hk : k < L.length) : pkF ls (L.take (k + 1)) = if has ls L[k].l then pkF ls (L.take k) ++ [L[k].f] else pkF ls (L.take k) := by
  unfold pkF
  rw [List.take_succ_eq_append_getElem hk, List.filter_append, List.map_append]
  by_cases h : has ls L[k].l
  · rw [if_pos h]; simp [h]
  · rw [if_neg h]; simp [h]
set_option maxRecDepth 100000 in
set_option maxHeartbeats 2000000 in
theorem filesOf_any (v lv : Value) (L : List Rn) (ls : List Int) (w : World) (hR : NReads w v L) (hL : ReadsP w lv ls) (h64 : L.length ≤ 64) :
    Calls Tryz.prog 17 #[v, lv] w fun e w' => ∃ v', e = .returned v' ∧ OwnP w' w.heap.size v' (filF ls L) ∧ Below w.heap.size w w' := by
  have HR : Hid (NReads w v L) := hR
  have HL : Hid (ReadsP w lv ls) := hL
  obtain ⟨a, cap, rfl, hl1, hl2⟩ := hR.form
  obtain ⟨la, lcap, rfl, hll⟩ := hL.form
  clear hR hL
  unfold maxLen at hl2
  go_enter Tryz.func17, Tryz.ntmps17
  go_wp2_with fail
  go_loopw [5, 10] (fun fv i wr => ∃ (k : Nat) (M : List Int), k ≤ L.length ∧ i = .int .i64 (k : Int) ∧ Hid (M = pkF ls (L.take k)) ∧ Hid (OwnP wr w.heap.size fv M) ∧ Hid (Below w.heap.size w wr)) (fun _ i _ => L.length - (intOf i).toNat)
  case atStart => exact ⟨0, [], by omega, rfl, by simp [pkF, Hid], OwnP.nil _ _, Below.refl _ _⟩
  case round =>
    obtain ⟨k, M, hk, rfl, HM, HO, HB⟩ := hrel
    obtain ⟨fa, fc, rfl, _⟩ := HO.out.form
    have hM64 : M.length ≤ 64 := by
      have h1 := pkF_len ls (L.take k)
      rw [← HM.out] at h1
      simp at h1
      omega
    by_cases hlt : k < L.length
    · obtain ⟨b, off, rfl, hb⟩ := HR.out.ptr (by omega)
      obtain ⟨r, Hr⟩ := hid_exP L[k]
      obtain ⟨c0, c1, c2, c3⟩ := (HR.out.below HB.out).four hlt r Hr.out
      go_wp2_with (refine stop_storeP 47 _ _ rfl ?_)
      refine StopP.of ?_
      refine wpList_storeNP rfl _ _ _ rfl wr.heap.size 0 (r4 r) rfl rfl _ _ (heap_alloc_new _ _) (by rw [r4_len]; simp) (by kernel_rfl) (by kernel_rfl) ?_
      intro W hW
      obtain ⟨hbW, hxW, hlW⟩ := stW_new hW (by simp [r4_len])
      have HBW : Hid (Below w.heap.size w W) := HB.out.trans (hbW.mono HB.out.size)
      have HOW : Hid (OwnP W w.heap.size (.slice fa M.length fc) M) := HO.out.below hbW
      obtain ⟨d0, d1, d2, d3⟩ := box4 hxW
      clear hW hbW hxW c0 c1 c2 c3
      go_wp2_with fail
      refine (contains_any _ ls r.l _ (HL.out.below HBW.out)).mono ?_
      rintro e w' ⟨rfl, hw'⟩
      subst w'
      obtain ⟨q, Hq⟩ := hid_exP (has ls r.l)
      rw [← Hq.out]
      cases q with
      | true =>
        obtain ⟨M1, HM1⟩ := hid_exP (M ++ [r.f])
        have HN : Hid (M1 = pkF ls (L.take (k + 1))) := by
          unfold Hid
          rw [pkF_take ls L k hlt, ← Hr.out, ← Hq.out, if_pos rfl, ← HM.out, HM1.out]
        have hsz : w.heap.size ≤ W.heap.size := HBW.out.size
        have hOW : OwnP W w.heap.size (.slice fa M.length fc) M := HOW.out
        go_wp2_with (at_builtin; refine wpList_app1P rfl _ _ rfl w.heap.size _ M r.f M1 HM1.out rfl rfl rfl hOW (by omega) hsz ?_)
        intro v' w' hO' hB'
        have HO' : Hid (OwnP w' w.heap.size v' M1) := hO'
        have HBn : Hid (Below w.heap.size w w') := HBW.out.trans hB'.out
        clear hO' hB' hOW d0 d1 d2 d3
        go_wp2_with fail
        go_roundw
        case rel => exact ⟨k + 1, M1, by omega, by go_num, HN.out, HO'.out, HBn.out⟩
        case measure => simp [intOf]; omega
      | false =>
        have HN : Hid (M = pkF ls (L.take (k + 1))) := by
          unfold Hid
          rw [pkF_take ls L k hlt, ← Hr.out, ← Hq.out, if_neg (by simp), ← HM.out]
        clear d0 d1 d2 d3
        go_wp2_with fail
        go_roundw
        case rel => exact ⟨k + 1, M, by omega, by go_num, HN.out, HOW.out, HBW.out⟩
        case measure => simp [intOf]; omega
    · obtain rfl : k = L.length := by omega
      go_wp2_with fail
      refine (sort_any _ M w.heap.size _ HO.out HB.out.size (by omega)).mono ?_
      rintro e w' ⟨rfl, hO', hB'⟩
      have HO' : Hid (OwnP w' w.heap.size (.slice fa M.length fc) (srt M)) := hO'
      have HBn : Hid (Below w.heap.size w w') := HB.out.trans hB'
      clear hO' hB'
      go_wp2_with fail
      go_ret
      have e : srt M = filF ls L := by rw [HM.out, List.take_length]; rfl
      exact ⟨_, rfl, by rw [← e]; exact HO'.out, HBn.out⟩
end Go.Proofs.YthicmbjiblbcmaaGreat

/- The contract of full. -/
namespace Go.Proofs.YthicmbjiblbcmaaGreat
open Go.RowKit Go.Shelf

/-- Is a level of a tree full? -/
def fulF (L : List Rn) (lv : Int) : Bool := if lv = 0 then decide (1 < (filF [0] L).length) else if lv = 1 then L.any (overP 1 64) else if lv = 2 then L.any (overP 2 256) else false
theorem eg_full1 : ∀ args w, (callFunc 29 args).run Tryz.prog w = .ok (.enter 29 args) w := enters_of Tryz.func29 (by kernel_rfl) rfl
theorem filF_len (ls : List Int) (L : List Rn) : (filF ls L).length ≤ L.length := by
  unfold filF
  rw [srt_len]
  exact pkF_len _ _
theorem reads1 (w : World) (x : Int) (T : TypeId) (B : Nat) (hB : B = w.heap.size) : ReadsP (w.alloc (.cells #[.int .i64 x] T)) (.slice (some ⟨B, 0, none⟩) 1 1) [x] := by
  subst hB
  refine .inr ⟨w.heap.size, 0, 1, rfl, by simp, by simp, by simp [maxLen], by simp, fun j hj => ?_⟩
  have : j = 0 := by simpa using hj
  subst this
  simp [ic]
theorem reads2 (w : World) (x y : Int) (T : TypeId) (B : Nat) (hB : B = w.heap.size) : ReadsP (w.alloc (.cells #[.int .i64 x, .int .i64 y] T)) (.slice (some ⟨B, 0, none⟩) 2 2) [x, y] := by
  subst hB
  refine .inr ⟨w.heap.size, 0, 2, rfl, by simp, by simp, by simp [maxLen], by simp, fun j hj => ?_⟩
  have : j = 0 ∨ j = 1 := by simp at hj; omega
  rcases this with rfl | rfl <;> simp [ic]
theorem over_any (L : List Rn) (lv m : Int) (hlm : (lv = 1 ∧ m = 64) ∨ (lv = 2 ∧ m = 256)) (v : Value) (w : World) (hR : NReads w v L) (T : TypeId) (B : Nat) (hB : B = w.heap.size) :
    Calls Tryz.prog 28 #[v, .func (.func 29) #[] #[.pointer (some ⟨B, 0, none⟩)]] (w.alloc (.cells #[.int .i64 lv] T)) fun e w' => e = .returned (.bool (L.any (overP lv m))) ∧ Below w.heap.size w w' := by
  have hb : Below w.heap.size w (w.alloc (.cells #[.int .i64 lv] T)) := (Below.refl _ _).alloc (Nat.le_refl _) _
  refine (containsF_any (overP lv m) _ _ eg_full1 v L _ (hR.below hb) (full1_says lv m hlm B _ (by rw [hB]; simp) (by rw [hB]; simp))).mono ?_
  rintro e w' ⟨rfl, h⟩
  exact ⟨rfl, hb.trans (h.mono hb.size)⟩
set_option maxRecDepth 100000 in
set_option maxHeartbeats 2000000 in
theorem full_any (v : Value) (L : List Rn) (lv : Int) (w : World) (hR : NReads w v L) (h64 : L.length ≤ 64) (h0 : 0 ≤ lv) (h3 : lv ≤ 3) :
    Calls Tryz.prog 16 #[v, .int .i64 lv] w fun e w' => e = .returned (.bool (fulF L lv)) ∧ Below w.heap.size w w' := by
  have HR : Hid (NReads w v L) := hR
  obtain ⟨a, cap, rfl, hl1, hl2⟩ := hR.form
  clear hR
  obtain ⟨q, Hq⟩ := hid_exP (fulF L lv)
  rw [← Hq.out]
  have hcs : lv = 0 ∨ lv = 1 ∨ lv = 2 ∨ lv = 3 := by omega
  clear h0 h3
  rcases hcs with rfl | rfl | rfl | rfl
  · go_enter Tryz.func16, Tryz.ntmps16
    go_wp2_with fail
    have hb0 : Below w.heap.size w (w.alloc (.cells #[.int .i64 0] 3)) := (Below.refl _ _).alloc (Nat.le_refl _) _
    have hb1 : Below w.heap.size w ((w.alloc (.cells #[.int .i64 0] 3)).alloc (.cells #[.int .i64 0] 3)) := hb0.alloc (by simp) _
    refine (filesOf_any _ _ L [0] _ (HR.out.below hb1) (reads1 (w.alloc (.cells #[.int .i64 0] 3)) 0 3 (w.heap.size + 1) (by simp)) h64).mono ?_
    rintro e w' ⟨v', rfl, hO, hB⟩
    have HB : Hid (Below w.heap.size w w') := hb1.trans (hB.mono hb1.size)
    obtain ⟨fa, fc, rfl, _⟩ := hO.form
    have hfl := filF_len [0] L
    have HQ : Hid (q = decide (1 < (filF [0] L).length)) := Hq.out
    clear hb0 hb1 hO hB
    generalize (filF [0] L).length = n at *
    go_wp2_with fail
    go_ret
    refine ⟨?_, HB.out⟩
    rw [HQ.out]
    simp
    omega
  · go_enter Tryz.func16, Tryz.ntmps16
    go_wp2_with fail
    refine (over_any L 1 64 (.inl ⟨rfl, rfl⟩) _ w HR.out _ _ rfl).mono ?_
    rintro e w' ⟨rfl, hB⟩
    have HB : Hid (Below w.heap.size w w') := hB
    clear hB
    go_wp2_with fail
    go_ret
    exact ⟨by rw [Hq.out]; rfl, HB.out⟩
  · go_enter Tryz.func16, Tryz.ntmps16
    go_wp2_with fail
    refine (over_any L 2 256 (.inr ⟨rfl, rfl⟩) _ w HR.out _ _ rfl).mono ?_
    rintro e w' ⟨rfl, hB⟩
    have HB : Hid (Below w.heap.size w w') := hB
    clear hB
    go_wp2_with fail
    go_ret
    exact ⟨by rw [Hq.out]; rfl, HB.out⟩
  · go_enter Tryz.func16, Tryz.ntmps16
    go_wp2_with fail
    go_ret
    exact ⟨by rw [Hq.out]; rfl, (Below.refl _ _).alloc (Nat.le_refl _) _⟩
end Go.Proofs.YthicmbjiblbcmaaGreat
