/- X3 XA1 XB XA2 XM, joined. -/
import Derived.Test.YtoenijflijfogaaRD3
import Derived.Test.YtoenijflijfogaaRD13
import Derived.Test.YtoenijflijfogaaRD30
import Derived.BigQuiet
import Derived.Deep.QuietTactic
/- The contract of the reference's From. -/
namespace Go.Proofs.Ytoenijflijfogaa
open Go.RowKit

theorem DArr.new (w : World) (f : Nat → Int) (t : TypeId) : DArr (w.alloc (.cells #[.int .i64 (f 0), .int .i64 (f 1), .int .i64 (f 2), .int .i64 (f 3), .int .i64 (f 4), .int .i64 (f 5), .int .i64 (f 6), .int .i64 (f 7), .int .i64 (f 8), .int .i64 (f 9), .int .i64 (f 10), .int .i64 (f 11), .int .i64 (f 12), .int .i64 (f 13), .int .i64 (f 14), .int .i64 (f 15)] t)) w.heap.size f := by
  refine ⟨by simp, fun j hj => ?_, fun j => by simp [go_sem]⟩
  have hjj : j = 0 ∨ j = 1 ∨ j = 2 ∨ j = 3 ∨ j = 4 ∨ j = 5 ∨ j = 6 ∨ j = 7 ∨ j = 8 ∨ j = 9 ∨ j = 10 ∨ j = 11 ∨ j = 12 ∨ j = 13 ∨ j = 14 ∨ j = 15 := by omega
  rcases hjj with rfl | rfl | rfl | rfl | rfl | rfl | rfl | rfl | rfl | rfl | rfl | rfl | rfl | rfl | rfl | rfl <;> simp [go_sem]
set_option maxRecDepth 100000 in
set_option maxHeartbeats 2000000 in
theorem from_any (f : Nat → Int) (zs : List Int) (hl : zs.length = 16) (hz : ∀ x ∈ zs, 0 ≤ x ∧ x ≤ 255) (hf : ∀ j, j < 16 → f j = zs.getD (15 - j) 0) (w : World) :
    Calls Try.prog 83 #[.agg #[.int .i64 (f 0), .int .i64 (f 1), .int .i64 (f 2), .int .i64 (f 3), .int .i64 (f 4), .int .i64 (f 5), .int .i64 (f 6), .int .i64 (f 7), .int .i64 (f 8), .int .i64 (f 9), .int .i64 (f 10), .int .i64 (f 11), .int .i64 (f 12), .int .i64 (f 13), .int .i64 (f 14), .int .i64 (f 15)]] w fun e w' => e = .returned (.agg #[.int .i64 (IntKind.i64.wrap (beval (zs.take 8))), .int .u64 (beval (zs.drop 8))]) ∧ Below w.heap.size w w' := by
  have HB0 : Hid (∀ o1 o2, Below w.heap.size w ((w.alloc o1).alloc o2)) := fun o1 o2 => ((Below.refl _ _).alloc (by simp) _).alloc (by simp) _
  have HN : Hid (∀ t, DArr (w.alloc (.cells #[.int .i64 (f 0), .int .i64 (f 1), .int .i64 (f 2), .int .i64 (f 3), .int .i64 (f 4), .int .i64 (f 5), .int .i64 (f 6), .int .i64 (f 7), .int .i64 (f 8), .int .i64 (f 9), .int .i64 (f 10), .int .i64 (f 11), .int .i64 (f 12), .int .i64 (f 13), .int .i64 (f 14), .int .i64 (f 15)] t)) w.heap.size f) := fun t => DArr.new w f t
  obtain ⟨zh, hzh⟩ : ∃ zh, zh = zs.take 8 := ⟨_, rfl⟩
  obtain ⟨zl, hzl⟩ : ∃ zl, zl = zs.drop 8 := ⟨_, rfl⟩
  have lh : zh.length = 8 := by rw [hzh, List.length_take]; omega
  have ll : zl.length = 8 := by rw [hzl, List.length_drop]; omega
  have bh : ∀ x ∈ zh, 0 ≤ x ∧ x ≤ 255 := fun x hx => hz x (by rw [hzh] at hx; exact List.mem_of_mem_take hx)
  have bl : ∀ x ∈ zl, 0 ≤ x ∧ x ≤ 255 := fun x hx => hz x (by rw [hzl] at hx; exact List.mem_of_mem_drop hx)
  have HFH : Hid (∀ m, m < 8 → f (8 + (7 - m)) = zh.getD m 0) := by
    intro m hm
    rw [hf _ (by omega), hzh]
    have e : 15 - (8 + (7 - m)) = m := by omega
    rw [e]; simp [hm]
  have HFL : Hid (∀ m, m < 8 → f (7 - m) = zl.getD m 0) := by
    intro m hm
    rw [hf _ (by omega), hzl]
    have e : 15 - (7 - m) = 8 + m := by omega
    rw [e]; simp [List.getElem?_drop]
  rw [← hzh, ← hzl]
  clear hz hf hl hzh hzl
  go_enter Try.func83, Try.ntmps83
  go_wp2_with fail
  go_loopw [3, 4, 5] (fun lo hi i wr => ∃ m : Nat, m ≤ 8 ∧ i = .int .i64 (7 - (m : Int)) ∧ lo = .int .u64 (beval (zl.take m)) ∧ hi = .int .u64 (beval (zh.take m)) ∧ DArr wr w.heap.size f ∧ wr.cell? ⟨w.heap.size + 1, 0, none⟩ = some (.int .i64 0) ∧ wr.cell? ⟨w.heap.size + 1, 1, none⟩ = some (.int .u64 0) ∧ wr.frozen? ⟨w.heap.size + 1, 0, none⟩ = false ∧ wr.frozen? ⟨w.heap.size + 1, 1, none⟩ = false ∧ Below w.heap.size w wr) (fun _ _ i _ => (intOf i + 1).toNat)
  case atStart =>
    refine ⟨0, by omega, rfl, rfl, rfl, (HN.out _).below ((Below.refl _ _).alloc (Nat.le_refl _) _), by simp [go_sem], by simp [go_sem], by simp [go_sem], by simp [go_sem], HB0.out _ _⟩
  case round =>
    obtain ⟨m, hm, rfl, rfl, rfl, hd, r0, r1, r2, r3, hbr⟩ := hrel
    by_cases hlt : m < 8
    · obtain ⟨k, hk⟩ : ∃ k : Nat, (7 - (m : Int)) = (k : Int) := ⟨7 - m, by omega⟩
      have ek : k = 7 - m := by omega
      have c1 := hd.2.1 k (by omega)
      have c2 := hd.2.1 (8 + k) (by omega)
      have HT1 : Hid _ := beval_take zl m (by omega)
      have HT2 : Hid _ := beval_take zh m (by omega)
      have d1 := beval_bd zl bl m
      have d2 := beval_bd zh bh m
      have e1 := bl _ (getD_mem zl m (by omega))
      have e2 := bh _ (getD_mem zh m (by omega))
      have hq : (256 : Int) ^ m ≤ 72057594037927936 := by
        have : (256 : Int) ^ m ≤ 256 ^ 7 := by
          have h7 : (256 : Nat) ^ m ≤ 256 ^ 7 := Nat.pow_le_pow_right (by omega) (by omega)
          exact_mod_cast h7
        simpa using this
      rw [ek] at c1 c2
      rw [HFL.out m hlt] at c1
      rw [HFH.out m hlt] at c2
      rw [← ek] at c1 c2
      generalize zl.getD m 0 = x at *
      generalize zh.getD m 0 = y at *
      generalize beval (zl.take m) = A at *
      generalize beval (zh.take m) = B at *
      generalize (256 : Int) ^ m = q at *
      have A1 : A < 72057594037927936 := by omega
      have B1 : B < 72057594037927936 := by omega
      have A0 := d1.1
      have B0 := d2.1
      obtain ⟨x0, x1⟩ := e1
      obtain ⟨y0, y1⟩ := e2
      have w1 : IntKind.u64.wrap (256 * A) = 256 * A := by rw [IntKind.wrap_u64]; omega
      have w2 : IntKind.u64.wrap (256 * B) = 256 * B := by rw [IntKind.wrap_u64]; omega
      have w3 : IntKind.u64.wrap (256 * A + x) = 256 * A + x := by rw [IntKind.wrap_u64]; omega
      have w4 : IntKind.u64.wrap (256 * B + y) = 256 * B + y := by rw [IntKind.wrap_u64]; omega
      have w5 : IntKind.u64.wrap x = x := by rw [IntKind.wrap_u64]; omega
      have w6 : IntKind.u64.wrap y = y := by rw [IntKind.wrap_u64]; omega
      have k7 : (k : Int) ≤ 7 := by omega
      have k16 : (k : Int) < 16 := by omega
      obtain ⟨k8, hk8⟩ : ∃ k8, k8 = 8 + k := ⟨_, rfl⟩
      have w7 : IntKind.i64.wrap (8 + (k : Int)) = (k8 : Int) := by rw [IntKind.wrap_i64]; omega
      have k816 : (k8 : Int) < 16 := by omega
      rw [← hk8] at c2
      have HB : Hid (Below w.heap.size w wr) := hbr
      have HR : Hid (DArr wr w.heap.size f ∧ wr.cell? ⟨w.heap.size + 1, 0, none⟩ = some (.int .i64 0) ∧ wr.cell? ⟨w.heap.size + 1, 1, none⟩ = some (.int .u64 0) ∧ wr.frozen? ⟨w.heap.size + 1, 0, none⟩ = false ∧ wr.frozen? ⟨w.heap.size + 1, 1, none⟩ = false) := ⟨hd, r0, r1, r2, r3⟩
      have HK : Hid (7 - (m : Int) = (k : Int)) := hk
      have HMM : Hid (k = 7 - m) := ek
      rw [hk]
      clear hd hbr d1 d2 hq bh bl r0 r1 r2 r3 hk ek hk8
      go_wp2_with fail
      refine wp_region_noPanic ?_
      refine wp_region_held_drew (S := (fun w' => w'.cell? ⟨w.heap.size, k, none⟩ = some (.int .i64 x) ∧ w'.cell? ⟨w.heap.size, k8, none⟩ = some (.int .i64 y))) (by kernel_rfl) ?_ (fun hHeld => ?_)
      · exact ⟨c1, c2⟩
      refine wpAnyH_take (i := 0) (v := .int .u64 A) rfl (by kernel_rfl) (by kernel_rfl) (by kernel_rfl) (fun _ _ _ h => h) (Or.inl ⟨by rfl, ?_⟩) (by assumption) ?_
      · (intro w1 hSw; (try dsimp only at hSw); go_simp)
      simp only [List.getElem_toArray, List.getElem_cons_zero, Act.put, List.setIfInBounds_toArray, List.set_cons_zero, List.set_cons_succ]
      refine wpAnyH_take (i := 1) (v := .int .u64 (256 * A)) rfl (by kernel_rfl) (by kernel_rfl) (by kernel_rfl) (fun _ _ _ h => h) (Or.inl ⟨by rfl, ?_⟩) (by assumption) ?_
      · (intro w1 hSw; (try dsimp only at hSw); go_simp)
      simp only [List.getElem_toArray, List.getElem_cons_succ, List.getElem_cons_zero, Act.put, List.setIfInBounds_toArray, List.set_cons_zero, List.set_cons_succ]
      refine wpAnyH_take (i := 2) (v := .int .i64 k) rfl (by kernel_rfl) (by kernel_rfl) (by kernel_rfl) (fun _ _ _ h => h) (Or.inl ⟨by rfl, ?_⟩) (by assumption) ?_
      · (intro w1 hSw; (try dsimp only at hSw); go_simp)
      simp only [List.getElem_toArray, List.getElem_cons_succ, List.getElem_cons_zero, Act.put, List.setIfInBounds_toArray, List.set_cons_zero, List.set_cons_succ]
      refine wpAnyH_take (i := 3) (v := .pointer (some ⟨w.heap.size, k, none⟩)) rfl (by kernel_rfl) (by kernel_rfl) (by kernel_rfl) (fun _ _ _ h => h) (Or.inl ⟨by rfl, ?_⟩) (by assumption) ?_
      · (intro w1 hSw; (try dsimp only at hSw); go_simp)
      simp only [List.getElem_toArray, List.getElem_cons_succ, List.getElem_cons_zero, Act.put, List.setIfInBounds_toArray, List.set_cons_zero, List.set_cons_succ]
      refine wpAnyH_take (i := 4) (v := .int .i64 x) rfl (by kernel_rfl) (by kernel_rfl) (by kernel_rfl) (fun _ _ _ h => h) (Or.inl ⟨by rfl, ?_⟩) (by assumption) ?_
      · (intro w1 hSw; (try dsimp only at hSw); go_simp)
      simp only [List.getElem_toArray, List.getElem_cons_succ, List.getElem_cons_zero, Act.put, List.setIfInBounds_toArray, List.set_cons_zero, List.set_cons_succ]
      refine wpAnyH_take (i := 5) (v := .int .u64 x) rfl (by kernel_rfl) (by kernel_rfl) (by kernel_rfl) (fun _ _ _ h => h) (Or.inl ⟨by rfl, ?_⟩) (by assumption) ?_
      · (intro w1 hSw; (try dsimp only at hSw); go_simp)
      simp only [List.getElem_toArray, List.getElem_cons_succ, List.getElem_cons_zero, Act.put, List.setIfInBounds_toArray, List.set_cons_zero, List.set_cons_succ]
      refine wpAnyH_take (i := 6) (v := .int .u64 (256 * A + x)) rfl (by kernel_rfl) (by kernel_rfl) (by kernel_rfl) (fun _ _ _ h => h) (Or.inl ⟨by rfl, ?_⟩) (by assumption) ?_
      · (intro w1 hSw; (try dsimp only at hSw); go_simp)
      simp only [List.getElem_toArray, List.getElem_cons_succ, List.getElem_cons_zero, Act.put, List.setIfInBounds_toArray, List.set_cons_zero, List.set_cons_succ]
      refine wpAnyH_take (i := 7) (v := .int .u64 B) rfl (by kernel_rfl) (by kernel_rfl) (by kernel_rfl) (fun _ _ _ h => h) (Or.inl ⟨by rfl, ?_⟩) (by assumption) ?_
      · (intro w1 hSw; (try dsimp only at hSw); go_simp)
      simp only [List.getElem_toArray, List.getElem_cons_succ, List.getElem_cons_zero, Act.put, List.setIfInBounds_toArray, List.set_cons_zero, List.set_cons_succ]
      refine wpAnyH_take (i := 8) (v := .int .u64 (256 * B)) rfl (by kernel_rfl) (by kernel_rfl) (by kernel_rfl) (fun _ _ _ h => h) (Or.inl ⟨by rfl, ?_⟩) (by assumption) ?_
      · (intro w1 hSw; (try dsimp only at hSw); go_simp)
      simp only [List.getElem_toArray, List.getElem_cons_succ, List.getElem_cons_zero, Act.put, List.setIfInBounds_toArray, List.set_cons_zero, List.set_cons_succ]
      refine wpAnyH_take (i := 9) (v := .int .i64 k) rfl (by kernel_rfl) (by kernel_rfl) (by kernel_rfl) (fun _ _ _ h => h) (Or.inl ⟨by rfl, ?_⟩) (by assumption) ?_
      · (intro w1 hSw; (try dsimp only at hSw); go_simp)
      simp only [List.getElem_toArray, List.getElem_cons_succ, List.getElem_cons_zero, Act.put, List.setIfInBounds_toArray, List.set_cons_zero, List.set_cons_succ]
      refine wpAnyH_take (i := 10) (v := .int .i64 k8) rfl (by kernel_rfl) (by kernel_rfl) (by kernel_rfl) (fun _ _ _ h => h) (Or.inl ⟨by rfl, ?_⟩) (by assumption) ?_
      · (intro w1 hSw; (try dsimp only at hSw); go_simp)
      simp only [List.getElem_toArray, List.getElem_cons_succ, List.getElem_cons_zero, Act.put, List.setIfInBounds_toArray, List.set_cons_zero, List.set_cons_succ]
      refine wpAnyH_take (i := 11) (v := .pointer (some ⟨w.heap.size, k8, none⟩)) rfl (by kernel_rfl) (by kernel_rfl) (by kernel_rfl) (fun _ _ _ h => h) (Or.inl ⟨by rfl, ?_⟩) (by assumption) ?_
      · (intro w1 hSw; (try dsimp only at hSw); go_simp)
      simp only [List.getElem_toArray, List.getElem_cons_succ, List.getElem_cons_zero, Act.put, List.setIfInBounds_toArray, List.set_cons_zero, List.set_cons_succ]
      refine wpAnyH_take (i := 12) (v := .int .i64 y) rfl (by kernel_rfl) (by kernel_rfl) (by kernel_rfl) (fun _ _ _ h => h) (Or.inl ⟨by rfl, ?_⟩) (by assumption) ?_
      · (intro w1 hSw; (try dsimp only at hSw); go_simp)
      simp only [List.getElem_toArray, List.getElem_cons_succ, List.getElem_cons_zero, Act.put, List.setIfInBounds_toArray, List.set_cons_zero, List.set_cons_succ]
      refine wpAnyH_take (i := 13) (v := .int .u64 y) rfl (by kernel_rfl) (by kernel_rfl) (by kernel_rfl) (fun _ _ _ h => h) (Or.inl ⟨by rfl, ?_⟩) (by assumption) ?_
      · (intro w1 hSw; (try dsimp only at hSw); go_simp)
      simp only [List.getElem_toArray, List.getElem_cons_succ, List.getElem_cons_zero, Act.put, List.setIfInBounds_toArray, List.set_cons_zero, List.set_cons_succ]
      refine wpAnyH_take (i := 14) (v := .int .u64 (256 * B + y)) rfl (by kernel_rfl) (by kernel_rfl) (by kernel_rfl) (fun _ _ _ h => h) (Or.inl ⟨by rfl, ?_⟩) (by assumption) ?_
      · (intro w1 hSw; (try dsimp only at hSw); go_simp)
      simp only [List.getElem_toArray, List.getElem_cons_succ, List.getElem_cons_zero, Act.put, List.setIfInBounds_toArray, List.set_cons_zero, List.set_cons_succ]
      refine wpAnyH_take (i := 15) (v := .int .u64 (256 * A + x)) rfl (by kernel_rfl) (by kernel_rfl) (by kernel_rfl) (fun _ _ _ h => h) (Or.inl ⟨by rfl, ?_⟩) (by assumption) ?_
      · (intro w1 hSw; (try dsimp only at hSw); go_simp)
      simp only [List.getElem_toArray, List.getElem_cons_succ, List.getElem_cons_zero, Act.put, List.setIfInBounds_toArray, List.set_cons_zero, List.set_cons_succ]
      refine wpAnyH_take (i := 16) (v := .int .u64 (256 * B + y)) rfl (by kernel_rfl) (by kernel_rfl) (by kernel_rfl) (fun _ _ _ h => h) (Or.inl ⟨by rfl, ?_⟩) (by assumption) ?_
      · (intro w1 hSw; (try dsimp only at hSw); go_simp)
      simp only [List.getElem_toArray, List.getElem_cons_succ, List.getElem_cons_zero, Act.put, List.setIfInBounds_toArray, List.set_cons_zero, List.set_cons_succ]
      refine wpAnyH_done (by kernel_rfl) ?_ _
      refine NoPanic.normal ?_
      go_wp2_with fail
      go_roundw
      case rel =>
        obtain ⟨q1, q2, q3, q4, q5⟩ := HR.out
        refine ⟨m + 1, by omega, ?_, ?_, ?_, q1, q2, q3, q4, q5, HB.out.drew⟩
        · have := HK.out; exact congrArg (Value.int .i64) (by omega)
        · rw [HT1.out]; exact congrArg (Value.int .u64) (by omega)
        · rw [HT2.out]; exact congrArg (Value.int .u64) (by omega)
      case measure => simp [intOf]
    · have hm8 : m = 8 := by omega
      subst hm8
      have t1 : zl.take 8 = zl := List.take_of_length_le (by omega)
      have t2 : zh.take 8 = zh := List.take_of_length_le (by omega)
      rw [t1, t2]
      have HB : Hid (Below w.heap.size w wr) := hbr
      have hsz := hbr.size
      have hi7 : (7 - ((8 : Nat) : Int)) = -1 := by omega
      rw [hi7]
      clear hd hbr bh bl t1 t2 lh ll HFH HFL HN HB0 hi7
      obtain ⟨A, HA⟩ : ∃ A, Hid (A = beval zl) := ⟨_, rfl⟩
      obtain ⟨B, HBB⟩ : ∃ B, Hid (B = beval zh) := ⟨_, rfl⟩
      rw [← HA.out, ← HBB.out]
      go_wp2_with fail
      refine bodyPost_ret (v := .agg #[.int .i64 (wrap64 B), .int .u64 A]) (by simp [results, Try.results83, go_sem, *]) rfl ⟨by rw [← HA.out, ← HBB.out, IntKind.wrap_i64]; simp [wrap64], ?_⟩
      exact (HB.out.setCell (p := ⟨w.heap.size + 1, 0, none⟩) (by show w.heap.size ≤ w.heap.size + 1; omega) _).setCell (p := ⟨w.heap.size + 1, 1, none⟩) (by show w.heap.size ≤ w.heap.size + 1; omega) _
end Go.Proofs.Ytoenijflijfogaa

/- The digits of sums: pure; the reference's From, of any number's digits. -/
namespace Go.Proofs.Ytoenijflijfogaa
open Go.RowKit

theorem dF_div (x : Int) (j : Nat) (hj : j < 16) : dF x j = x / 256 ^ j % 256 := by
  unfold dF dig uhD hi lo
  match j, hj with
  | 0, _ => simp
  | 1, _ => simp; omega
  | 2, _ => simp; omega
  | 3, _ => simp; omega
  | 4, _ => simp; omega
  | 5, _ => simp; omega
  | 6, _ => simp; omega
  | 7, _ => simp; omega
  | 8, _ => simp
  | 9, _ => simp; omega
  | 10, _ => simp; omega
  | 11, _ => simp; omega
  | 12, _ => simp; omega
  | 13, _ => simp; omega
  | 14, _ => simp; omega
  | 15, _ => simp; omega
  | k + 16, h => omega
theorem dF_bds (x : Int) (j : Nat) : 0 ≤ dF x j ∧ dF x j ≤ 255 := by unfold dF dig; split <;> omega
theorem pow256 (x : Int) (j : Nat) : x / 256 ^ (j + 1) = x / 256 ^ j / 256 := by
  rw [Int.pow_succ, ← Int.ediv_ediv_of_nonneg (Int.le_of_lt (Int.pow_pos (by decide)))]
/-- What is carried. -/
def cyF (x y : Int) (j : Nat) : Int := (x + y) / 256 ^ j - x / 256 ^ j - y / 256 ^ j
theorem cy_zero (x y : Int) : cyF x y 0 = 0 := by unfold cyF; simp; omega
theorem cy_rem (x y : Int) (j : Nat) (hj : j < 16) : (dF x j + dF y j + cyF x y j) % 256 = dF (x + y) j := by
  rw [dF_div x j hj, dF_div y j hj, dF_div (x + y) j hj]
  unfold cyF
  generalize x / 256 ^ j = a, y / 256 ^ j = b, (x + y) / 256 ^ j = c
  omega
theorem cy_quo (x y : Int) (j : Nat) (hj : j < 16) : (dF x j + dF y j + cyF x y j) / 256 = cyF x y (j + 1) := by
  rw [dF_div x j hj, dF_div y j hj]
  unfold cyF
  rw [pow256, pow256, pow256]
  generalize x / 256 ^ j = a, y / 256 ^ j = b, (x + y) / 256 ^ j = c
  omega
theorem cy_bd (x y : Int) : ∀ j, j ≤ 16 → 0 ≤ cyF x y j ∧ cyF x y j ≤ 1
  | 0, _ => by rw [cy_zero]; omega
  | j + 1, h => by
    have ih := cy_bd x y j (by omega)
    have h1 := dF_bds x j
    have h2 := dF_bds y j
    rw [← cy_quo x y j (by omega)]
    omega
theorem from_N (x : Int) (w : World) : Calls Try.prog 83 #[.agg #[.int .i64 (dF x 0), .int .i64 (dF x 1), .int .i64 (dF x 2), .int .i64 (dF x 3), .int .i64 (dF x 4), .int .i64 (dF x 5), .int .i64 (dF x 6), .int .i64 (dF x 7), .int .i64 (dF x 8), .int .i64 (dF x 9), .int .i64 (dF x 10), .int .i64 (dF x 11), .int .i64 (dF x 12), .int .i64 (dF x 13), .int .i64 (dF x 14), .int .i64 (dF x 15)]] w fun e w' => e = .returned (wv x) ∧ Below w.heap.size w w' := by
  have h := from_any (dF x) ((List.range 16).map fun m => dF x (15 - m)) (by simp) (by
    intro z hz
    obtain ⟨m, _, rfl⟩ := List.mem_map.1 hz
    exact dF_bds x _) (by
    intro j hj
    have e : 15 - (15 - j) = j := by omega
    have hl : 15 - j < 16 := by omega
    simp [hl, e]) w
  have e1 : IntKind.i64.wrap (beval (((List.range 16).map fun m => dF x (15 - m)).take 8)) = hi x := by
    have e : ((List.range 16).map fun m => dF x (15 - m)).take 8 = [dF x 15, dF x 14, dF x 13, dF x 12, dF x 11, dF x 10, dF x 9, dF x 8] := rfl
    rw [e]
    simp only [beval, List.foldl_cons, List.foldl_nil]
    rw [IntKind.wrap_i64]
    unfold hi
    rw [dF_div x 15 (by decide), dF_div x 14 (by decide), dF_div x 13 (by decide), dF_div x 12 (by decide), dF_div x 11 (by decide), dF_div x 10 (by decide), dF_div x 9 (by decide), dF_div x 8 (by decide)]
    simp
    omega
  have e2 : beval (((List.range 16).map fun m => dF x (15 - m)).drop 8) = lo x := by
    have e : ((List.range 16).map fun m => dF x (15 - m)).drop 8 = [dF x 7, dF x 6, dF x 5, dF x 4, dF x 3, dF x 2, dF x 1, dF x 0] := rfl
    rw [e]
    simp only [beval, List.foldl_cons, List.foldl_nil]
    unfold lo
    rw [dF_div x 7 (by decide), dF_div x 6 (by decide), dF_div x 5 (by decide), dF_div x 4 (by decide), dF_div x 3 (by decide), dF_div x 2 (by decide), dF_div x 1 (by decide), dF_div x 0 (by decide)]
    simp
    omega
  rw [e1, e2] at h
  exact h
end Go.Proofs.Ytoenijflijfogaa

/- A box of a number, and worlds that were drawn from. -/
namespace Go.Proofs.Ytoenijflijfogaa
open Go.RowKit

/-- A box of a number. -/
def NBox (x : Int) (b : Nat) (w : World) : Prop := b < w.heap.size ∧ w.cell? ⟨b, 0, none⟩ = some (.int .i64 (hi x)) ∧ w.cell? ⟨b, 1, none⟩ = some (.int .u64 (lo x))
theorem NBox.below {x : Int} {b : Nat} {w1 w2 : World} (h : NBox x b w1) (hb : Below w1.heap.size w1 w2) : NBox x b w2 := by
  obtain ⟨h0, h1, h2⟩ := h
  have := hb.size
  exact ⟨by omega, (hb.cell (p := ⟨b, 0, none⟩) h0).trans h1, (hb.cell (p := ⟨b, 1, none⟩) h0).trans h2⟩
theorem bel_dN {n : Nat} {w1 w2 : World} (h : Below n w1 w2) (k : Nat) : Below n w1 (w2.drewN k) := h.trans ⟨rfl, rfl, rfl, Nat.le_refl _, fun _ _ => rfl⟩
end Go.Proofs.Ytoenijflijfogaa

/- The contract of the reference's Add. -/
namespace Go.Proofs.Ytoenijflijfogaa
open Go.RowKit

set_option maxRecDepth 100000 in
set_option maxHeartbeats 1000000 in
theorem refAdd_any (x y : Int) (w : World) :
    Calls Try.prog 62 #[wv x, wv y] w fun e w' => e = .returned (wv (x + y)) ∧ Below w.heap.size w w' := by
  unfold wv
  go_enter Try.func62, Try.ntmps62
  go_wp2_with fail
  have HB0 : Hid (Below w.heap.size w (((w.alloc (.cells #[.int .i64 (hi x), .int .u64 (lo x)] 38)).alloc (.cells #[.int .i64 (hi y), .int .u64 (lo y)] 38)).alloc (.cells #[.int .i64 0, .int .u64 0] 38))) := (((Below.refl _ _).alloc (by simp) _).alloc (by simp) _).alloc (by simp; omega) _
  have HX0 : Hid (NBox x w.heap.size (((w.alloc (.cells #[.int .i64 (hi x), .int .u64 (lo x)] 38)).alloc (.cells #[.int .i64 (hi y), .int .u64 (lo y)] 38)).alloc (.cells #[.int .i64 0, .int .u64 0] 38))) := ⟨by simp; omega, by simp [go_sem, World.cell?_alloc_past], by simp [go_sem, World.cell?_alloc_past]⟩
  have HY0 : Hid (NBox y (w.heap.size + 1) (((w.alloc (.cells #[.int .i64 (hi x), .int .u64 (lo x)] 38)).alloc (.cells #[.int .i64 (hi y), .int .u64 (lo y)] 38)).alloc (.cells #[.int .i64 0, .int .u64 0] 38))) := ⟨by simp, by simp [go_sem, World.cell?_alloc_past], by simp [go_sem, World.cell?_alloc_past]⟩
  have HR0 : Hid ((((w.alloc (.cells #[.int .i64 (hi x), .int .u64 (lo x)] 38)).alloc (.cells #[.int .i64 (hi y), .int .u64 (lo y)] 38)).alloc (.cells #[.int .i64 0, .int .u64 0] 38)).heap[w.heap.size + 1 + 1]? = some (.cells #[.int .i64 0, .int .u64 0] 38)) := by
    have h9 := heap_alloc_new ((w.alloc (.cells #[.int .i64 (hi x), .int .u64 (lo x)] 38)).alloc (.cells #[.int .i64 (hi y), .int .u64 (lo y)] 38)) (.cells #[.int .i64 0, .int .u64 0] 38)
    rw [World.size_alloc, World.size_alloc] at h9
    exact h9
  generalize ((w.alloc (.cells #[.int .i64 (hi x), .int .u64 (lo x)] 38)).alloc (.cells #[.int .i64 (hi y), .int .u64 (lo y)] 38)).alloc (.cells #[.int .i64 0, .int .u64 0] 38) = w0 at *
  refine region_inv2 (by kernel_rfl) [10, 11, 12, 13, 5, 6] [4, 5] (dV x y w0.heap.size) (fun j o ho g g' w' hj hd hv => dV.loc hj (fun e => ?l6) (fun e => ?l7) hv) (fun j hj g w' h => dV.box hj h) (by kernel_rfl) (by kernel_rfl) ?steps ?done
  case l6 =>
    subst e
    obtain rfl := Option.some.inj ho
    exact hd 4 (of_decide_eq_true (by kernel_rfl))
  case l7 =>
    subst e
    obtain rfl := Option.some.inj ho
    exact hd 5 (of_decide_eq_true (by kernel_rfl))
  case steps =>
    show AllS2 _ _ _ _ _ _ _ _ [0, 1, 2, 3, 4, 5, 6, 7]
    refine AllS2.cons (o := _) (ds := []) rfl (by kernel_rfl) ?_ ?_
    · intro f w1 K HB hd hA hK
      clear hd hA
      generalize hF : frF _ _ f = A at hK ⊢
      simp only [List.getElem_toArray, List.getElem_cons_zero] at hK ⊢
      have e2 : A.tmps[2]?.getD undef = .pointer (some ⟨w.heap.size, 0, none⟩) := by rw [← hF]; rfl
      clear hF
      obtain ⟨j0, j1, j2⟩ := HX0.out.below HB.out
      have hK2 := hK.out (wv x) w1 (Below.refl _ _) (fun _ h => h) (fun g' h _ => h) (fun h => absurd h (by decide))
      unfold wv at hK2
      clear hK
      go_simp
      exact hK2
    refine AllS2.cons (o := _) (ds := [0]) rfl (by kernel_rfl) ?_ ?_
    · intro f w1 K HB hd hA hK
      have hx : f 10 = wv x := hd 0 (by simp)
      clear hd hA
      generalize hF : frF _ _ f = A at hK ⊢
      simp only [List.getElem_toArray, List.getElem_cons_succ, List.getElem_cons_zero] at hK ⊢
      have ex : A.tmps[10]?.getD undef = f 10 := by rw [← hF]; rfl
      rw [hx] at ex
      clear hF hx
      have HN : Hid (w0.heap.size ≤ w1.heap.size) := HB.out.size
      go_simp
      refine (digits_dv x _).mono ?_
      rintro e w2 ⟨rfl, hb2⟩
      have hK2 := hK.out (dv x) w2 (hb2.mono HN.out) (fun _ h => dV.below hb2 h) (fun g' h _ => h) (fun h => absurd h (by decide))
      clear hK hb2
      go_simp
      exact hK2
    refine AllS2.cons (o := _) (ds := []) rfl (by kernel_rfl) ?_ ?_
    · intro f w1 K HB hd hA hK
      clear hd hA
      generalize hF : frF _ _ f = A at hK ⊢
      simp only [List.getElem_toArray, List.getElem_cons_succ, List.getElem_cons_zero] at hK ⊢
      have e3 : A.tmps[3]?.getD undef = .pointer (some ⟨(w.heap.size + 1), 0, none⟩) := by rw [← hF]; rfl
      clear hF
      obtain ⟨j0, j1, j2⟩ := HY0.out.below HB.out
      have hK2 := hK.out (wv y) w1 (Below.refl _ _) (fun _ h => h) (fun g' h _ => h) (fun h => absurd h (by decide))
      unfold wv at hK2
      clear hK
      go_simp
      exact hK2
    refine AllS2.cons (o := _) (ds := [2, 1]) rfl (by kernel_rfl) ?_ ?_
    · intro f w1 K HB hd hA hK
      have hx : f 12 = wv y := hd 2 (by simp)
      clear hd hA
      generalize hF : frF _ _ f = A at hK ⊢
      simp only [List.getElem_toArray, List.getElem_cons_succ, List.getElem_cons_zero] at hK ⊢
      have ex : A.tmps[12]?.getD undef = f 12 := by rw [← hF]; rfl
      rw [hx] at ex
      clear hF hx
      have HN : Hid (w0.heap.size ≤ w1.heap.size) := HB.out.size
      go_simp
      refine (digits_dv y _).mono ?_
      rintro e w2 ⟨rfl, hb2⟩
      have hK2 := hK.out (dv y) w2 (hb2.mono HN.out) (fun _ h => dV.below hb2 h) (fun g' h _ => h) (fun h => absurd h (by decide))
      clear hK hb2
      go_simp
      exact hK2
    refine AllS2.cons (o := _) (ds := []) rfl (by kernel_rfl) ?_ ?_
    · intro f w1 K HB hd hA hK
      clear hd hA
      generalize hF : frF _ _ f = A at hK ⊢
      simp only [List.getElem_toArray, List.getElem_cons_succ, List.getElem_cons_zero] at hK ⊢
      clear hF
      have hn : w0.heap.size ≤ w1.heap.size := HB.out.size
      have hb2 := (Below.refl w1.heap.size w1).alloc (Nat.le_refl _) (.cells #[.int .i64 0, .int .i64 0, .int .i64 0, .int .i64 0, .int .i64 0, .int .i64 0, .int .i64 0, .int .i64 0, .int .i64 0, .int .i64 0, .int .i64 0, .int .i64 0, .int .i64 0, .int .i64 0, .int .i64 0, .int .i64 0] 138)
      have hK2 := hK.out (.pointer (some ⟨w1.heap.size, 0, none⟩)) _ (hb2.mono hn) (fun _ h => dV.below hb2 h) (fun g' h _ => ⟨w1.heap.size, h, hn, by simp, _, _, heap_alloc_new _ _, rfl⟩) (fun _ => rfl)
      clear hK hb2
      go_simp
      exact hK2
    refine AllS2.cons (o := _) (ds := []) rfl (by kernel_rfl) ?_ ?_
    · intro f w1 K HB hd hA hK
      clear hd hA
      generalize hF : frF _ _ f = A at hK ⊢
      simp only [List.getElem_toArray, List.getElem_cons_succ, List.getElem_cons_zero] at hK ⊢
      clear hF
      have hn : w0.heap.size ≤ w1.heap.size := HB.out.size
      have hb2 := (Below.refl w1.heap.size w1).alloc (Nat.le_refl _) (.cells #[.int .i64 0, .int .i64 0, .int .i64 0, .int .i64 0, .int .i64 0, .int .i64 0, .int .i64 0, .int .i64 0, .int .i64 0, .int .i64 0, .int .i64 0, .int .i64 0, .int .i64 0, .int .i64 0, .int .i64 0, .int .i64 0] 138)
      have hK2 := hK.out (.pointer (some ⟨w1.heap.size, 0, none⟩)) _ (hb2.mono hn) (fun _ h => dV.below hb2 h) (fun g' h _ => ⟨w1.heap.size, h, hn, by simp, _, _, heap_alloc_new _ _, rfl⟩) (fun _ => rfl)
      clear hK hb2
      go_simp
      exact hK2
    refine AllS2.cons (o := _) (ds := [4, 1, 3, 0, 1, 4, 5]) rfl (by kernel_rfl) ?_ ?_
    · intro f w1 K HB hd hA hK
      have hx : Bd w0.heap.size (f 5) w1 := hd 4 (by simp)
      have hv : f 11 = dv x := hd 1 (by simp)
      have hne : f 6 ≠ f 5 := hA.out 5 (by simp) 4 (by simp) (by simp) (by simp) (by decide)
      clear hd hA
      obtain ⟨g, hg, hn, hgs, cs, T, hh, hcs⟩ := hx
      generalize hF : frF _ _ f = A at hK ⊢
      simp only [List.getElem_toArray, List.getElem_cons_succ, List.getElem_cons_zero] at hK ⊢
      have ex : A.tmps[5]?.getD undef = f 5 := by rw [← hF]; rfl
      have ey : A.tmps[11]?.getD undef = f 11 := by rw [← hF]; rfl
      rw [hg] at ex
      rw [hv] at ey
      clear hF hv
      refine Eq.mpr (if_pos (c := Region.wanted _ _ = true) rfl) ?_
      refine wp_storeN _ _ _ rfl g 0 (dvL x) (by simpa [go_sem] using ex) (by unfold dv at ey; simpa [go_sem] using ey) cs T hh (by rw [dvL_len, hcs]; decide) (by rw [dvL_len]; kernel_rfl) (by kernel_rfl) (fun W hW => ?_)
      have hF2 := Fd.mk (x := x) hn hgs hW
      refine hK.out undef W (hW.b _ hn) (fun j h => dV.store hW hcs (fun h1 => ?_) (fun h1 => ?_) h) (fun g' _ h2 => ?_) (fun h => absurd h (by decide))
      · show Fd _ _ (f 5) W; rw [hg]; exact hF2
      · exact Fd.store (v := f 6) h1 (by rw [← hg]; exact hne) hW
      · have h3 : g' 4 = f 5 := h2 4 (by simp)
        show Fd _ _ (g' 4) W
        rw [h3, hg]; exact hF2
    refine AllS2.cons (o := _) (ds := [5, 3, 6, 0, 1, 2, 3, 4, 5, 6]) rfl (by kernel_rfl) ?_ ?_
    · intro f w1 K HB hd hA hK
      have hx : Bd w0.heap.size (f 6) w1 := hd 5 (by simp)
      have hv : f 13 = dv y := hd 3 (by simp)
      have hne : f 5 ≠ f 6 := hA.out 4 (by simp) 5 (by simp) (by simp) (by simp) (by decide)
      clear hd hA
      obtain ⟨g, hg, hn, hgs, cs, T, hh, hcs⟩ := hx
      generalize hF : frF _ _ f = A at hK ⊢
      simp only [List.getElem_toArray, List.getElem_cons_succ, List.getElem_cons_zero] at hK ⊢
      have ex : A.tmps[6]?.getD undef = f 6 := by rw [← hF]; rfl
      have ey : A.tmps[13]?.getD undef = f 13 := by rw [← hF]; rfl
      rw [hg] at ex
      rw [hv] at ey
      clear hF hv
      refine Eq.mpr (if_pos (c := Region.wanted _ _ = true) rfl) ?_
      refine wp_storeN _ _ _ rfl g 0 (dvL y) (by simpa [go_sem] using ex) (by unfold dv at ey; simpa [go_sem] using ey) cs T hh (by rw [dvL_len, hcs]; decide) (by rw [dvL_len]; kernel_rfl) (by kernel_rfl) (fun W hW => ?_)
      have hF2 := Fd.mk (x := y) hn hgs hW
      refine hK.out undef W (hW.b _ hn) (fun j h => dV.store hW hcs (fun h1 => ?_) (fun h1 => ?_) h) (fun g' _ h2 => ?_) (fun h => absurd h (by decide))
      · exact Fd.store (v := f 5) h1 (by rw [← hg]; exact hne) hW
      · show Fd _ _ (f 6) W; rw [hg]; exact hF2
      · have h3 : g' 5 = f 6 := h2 5 (by simp)
        show Fd _ _ (g' 5) W
        rw [h3, hg]; exact hF2
    exact AllS2.nil
  case done =>
    intro f w1 hB hd hap
    have h6 : Fd w0.heap.size x (f 5) w1 := hd 6 (by decide)
    have h7 : Fd w0.heap.size y (f 6) w1 := hd 7 (by decide)
    have hne : f 5 ≠ f 6 := hap 4 (by simp) 5 (by simp) (by decide) (by decide) (by decide)
    obtain ⟨gx, hgx, nx, dx⟩ := h6
    obtain ⟨gy, hgy, ny, dy⟩ := h7
    have hxy : gx ≠ gy := fun e => hne (by rw [hgx, hgy, e])
    have hrl : w.heap.size + 1 + 1 < w0.heap.size := by
      rcases Nat.lt_or_ge (w.heap.size + 1 + 1) w0.heap.size with h | h
      · exact h
      · have h9 := HR0.out
        rw [Array.getElem?_eq_none h] at h9; cases h9
    have HB1 : Hid (Below w.heap.size w w1) := HB0.out.trans (hB.mono HB0.out.size)
    have HR1 : Hid (w1.heap[w.heap.size + 1 + 1]? = some (.cells #[.int .i64 0, .int .u64 0] 38)) := (hB.block _ hrl).trans HR0.out
    have DX : Hid (DArr w1 gx (dF x)) := dx
    have DY : Hid (DArr w1 gy (dF y)) := dy
    have NX : Hid (w.heap.size + 1 + 1 < gx) := by unfold Hid; omega
    have NE : Hid (gx ≠ gy) := hxy
    clear hd hap hB dx dy nx ny hne hxy hrl
    simp only [frF, tmOf, List.contains_cons, List.contains_nil, Nat.reduceAdd, Nat.zero_add, Nat.reduceBEq, Bool.or_false, Bool.false_or, cond_true, cond_false]
    rw [hgx, hgy]
    clear hgx hgy HX0 HY0 HB0 HR0
    generalize f 10 = f10, f 11 = f11, f 12 = f12, f 13 = f13
    clear f w0
    go_wp2_with fail
    go_loopw [7, 8, 9] (fun c i _ wr => ∃ k : Nat, k ≤ 16 ∧ i = .int .i64 (k : Int) ∧ c = .int .i64 (cyF x y k) ∧ DArr wr gx (fun j => if j < k then dF (x + y) j else dF x j) ∧ DArr wr gy (dF y) ∧ wr.heap[w.heap.size + 1 + 1]? = some (.cells #[.int .i64 0, .int .u64 0] 38) ∧ Below w.heap.size w wr) (fun _ i _ _ => 16 - (intOf i).toNat)
    case atStart => exact ⟨0, by omega, rfl, by rw [cy_zero], DX.out.congr (fun j hj => by simp), DY.out, HR1.out, HB1.out⟩
    case round =>
      obtain ⟨k, hk, rfl, rfl, hd, hy, hr, hbr⟩ := hrel
      by_cases hlt : k < 16
      · have c1 : wr.cell? ⟨gx, k, none⟩ = some (.int .i64 (dF x k)) := (hd.2.1 k hlt).trans (by show some (Value.int .i64 (if k < k then _ else _)) = _; rw [if_neg (Nat.lt_irrefl k)])
        have c2 := hy.2.1 k hlt
        have f1 := hd.2.2 k
        have k0 : (0 : Int) ≤ (k : Int) := by omega
        have k16 : (k : Int) < 16 := by omega
        obtain ⟨d0, d1⟩ := dF_bds x k
        obtain ⟨e0, e1⟩ := dF_bds y k
        obtain ⟨y0, y1⟩ := cy_bd x y k hk
        have HQ : Hid _ := cy_quo x y k hlt
        have HD : Hid (∀ nq, DArr (((wr.drewN nq)).setCell ⟨gx, k, none⟩ (.int .i64 (dF (x + y) k))) gx (fun j => if j < k + 1 then dF (x + y) j else dF x j) ∧ DArr (((wr.drewN nq)).setCell ⟨gx, k, none⟩ (.int .i64 (dF (x + y) k))) gy (dF y) ∧ (((wr.drewN nq)).setCell ⟨gx, k, none⟩ (.int .i64 (dF (x + y) k))).heap[w.heap.size + 1 + 1]? = some (.cells #[.int .i64 0, .int .u64 0] 38) ∧ Below w.heap.size w (((wr.drewN nq)).setCell ⟨gx, k, none⟩ (.int .i64 (dF (x + y) k)))) := fun nq => by
          have hd' : DArr (wr.drewN nq) gx (fun j => if j < k then dF (x + y) j else dF x j) := hd
          have hy' : DArr (wr.drewN nq) gy (dF y) := hy
          have nx := NX.out
          refine ⟨(hd'.set k hlt _).congr (fun j hj => ?_), hy'.far NE.out, (Below.heap_setCell _ _ _ _ (by show w.heap.size + 1 + 1 ≠ gx; omega)).trans hr, (bel_dN hbr nq).setCell (by show w.heap.size ≤ gx; omega) _⟩
          by_cases e : j = k
          · subst e; rw [if_pos rfl, if_pos (by omega)]
          · rw [if_neg e]
            by_cases e2 : j < k
            · rw [if_pos e2, if_pos (by omega)]
            · rw [if_neg e2, if_neg (by omega)]
        have HE : Hid _ := cy_rem x y k hlt
        have HW : Hid (wrap64 (cyF x y (k + 1)) = cyF x y (k + 1)) := by
          have h9 := cy_bd x y (k + 1) (by omega)
          unfold Hid wrap64; omega
        generalize hA : dF x k = A at *
        generalize hB : dF y k = B at *
        generalize hC : cyF x y k = C at *
        have t1 : Int.tmod (A + B + C) 256 = dF (x + y) k := by rw [Int.tmod_eq_emod_of_nonneg (by omega), HE.out]
        have t2 : Int.tdiv (A + B + C) 256 = cyF x y (k + 1) := by rw [Int.tdiv_eq_ediv_of_nonneg (by omega), HQ.out]
        have w1 : IntKind.i64.wrap (A + B) = A + B := by rw [IntKind.wrap_i64]; omega
        have w2 : IntKind.i64.wrap (A + B + C) = A + B + C := by rw [IntKind.wrap_i64]; omega
        have hsz := hbr.size
        clear hd hy hr hbr hA hB hC HE HQ
        go_wp2_with fail
        go_quiet (fail)
        go_wp2_with fail
        go_roundw
        case rel => 
          obtain ⟨z1, z2, z3, z4⟩ := HD.out _
          exact ⟨k + 1, by omega, by go_num, by rw [HW.out], z1, z2, z3, z4⟩
        case measure => simp [intOf]; omega
      · have hke : k = 16 := by omega
        subst hke
        have hd := hd.congr (g := dF (x + y)) (fun j hj => by rw [if_pos hj])
        have HR : Hid _ := hr
        have HB : Hid _ := hbr
        have hgs := hd.1
        have c0 : wr.cell? ⟨gx, 0, none⟩ = some (.int .i64 (dF (x + y) 0)) := hd.2.1 0 (by decide)
        have c1 : wr.cell? ⟨gx, 1, none⟩ = some (.int .i64 (dF (x + y) 1)) := hd.2.1 1 (by decide)
        have c2 : wr.cell? ⟨gx, 2, none⟩ = some (.int .i64 (dF (x + y) 2)) := hd.2.1 2 (by decide)
        have c3 : wr.cell? ⟨gx, 3, none⟩ = some (.int .i64 (dF (x + y) 3)) := hd.2.1 3 (by decide)
        have c4 : wr.cell? ⟨gx, 4, none⟩ = some (.int .i64 (dF (x + y) 4)) := hd.2.1 4 (by decide)
        have c5 : wr.cell? ⟨gx, 5, none⟩ = some (.int .i64 (dF (x + y) 5)) := hd.2.1 5 (by decide)
        have c6 : wr.cell? ⟨gx, 6, none⟩ = some (.int .i64 (dF (x + y) 6)) := hd.2.1 6 (by decide)
        have c7 : wr.cell? ⟨gx, 7, none⟩ = some (.int .i64 (dF (x + y) 7)) := hd.2.1 7 (by decide)
        have c8 : wr.cell? ⟨gx, 8, none⟩ = some (.int .i64 (dF (x + y) 8)) := hd.2.1 8 (by decide)
        have c9 : wr.cell? ⟨gx, 9, none⟩ = some (.int .i64 (dF (x + y) 9)) := hd.2.1 9 (by decide)
        have c10 : wr.cell? ⟨gx, 10, none⟩ = some (.int .i64 (dF (x + y) 10)) := hd.2.1 10 (by decide)
        have c11 : wr.cell? ⟨gx, 11, none⟩ = some (.int .i64 (dF (x + y) 11)) := hd.2.1 11 (by decide)
        have c12 : wr.cell? ⟨gx, 12, none⟩ = some (.int .i64 (dF (x + y) 12)) := hd.2.1 12 (by decide)
        have c13 : wr.cell? ⟨gx, 13, none⟩ = some (.int .i64 (dF (x + y) 13)) := hd.2.1 13 (by decide)
        have c14 : wr.cell? ⟨gx, 14, none⟩ = some (.int .i64 (dF (x + y) 14)) := hd.2.1 14 (by decide)
        have c15 : wr.cell? ⟨gx, 15, none⟩ = some (.int .i64 (dF (x + y) 15)) := hd.2.1 15 (by decide)
        clear hd hy hr hbr
        go_wp2_with fail
        refine (from_N (x + y) _).mono ?_
        rintro e w5 ⟨rfl, hb5⟩
        have nx := NX.out
        have hr5 := (hb5.block (w.heap.size + 1 + 1) (by omega)).trans HR.out
        have HB5 : Hid (Below w.heap.size w w5) := HB.out.trans (hb5.mono HB.out.size)
        clear hb5
        unfold wv
        have r0 : w5.cell? ⟨w.heap.size + 1 + 1, 0, none⟩ = some (.int .i64 0) := by simp [World.cell?, hr5]
        have r1 : w5.cell? ⟨w.heap.size + 1 + 1, 1, none⟩ = some (.int .u64 0) := by simp [World.cell?, hr5]
        have r2 : ∀ o, w5.frozen? ⟨w.heap.size + 1 + 1, o, none⟩ = false := fun o => by simp [World.frozen?, hr5]
        go_wp2_with fail
        have s0 := World.cell?_setCell_same w5 ⟨w.heap.size + 1 + 1, 0, none⟩ (.int .i64 (hi (x + y))) r0
        have s1 : ((w5.setCell ⟨w.heap.size + 1 + 1, 0, none⟩ (.int .i64 (hi (x + y)))).setCell ⟨w.heap.size + 1 + 1, 1, none⟩ (.int .u64 (lo (x + y)))).cell? ⟨w.heap.size + 1 + 1, 0, none⟩ = some (.int .i64 (hi (x + y))) := by
          rw [World.cell?_setCell_other (h := by simp)]; exact s0
        have s2 : ((w5.setCell ⟨w.heap.size + 1 + 1, 0, none⟩ (.int .i64 (hi (x + y)))).setCell ⟨w.heap.size + 1 + 1, 1, none⟩ (.int .u64 (lo (x + y)))).cell? ⟨w.heap.size + 1 + 1, 1, none⟩ = some (.int .u64 (lo (x + y))) := by
          have q1 : (w5.setCell ⟨w.heap.size + 1 + 1, 0, none⟩ (.int .i64 (hi (x + y)))).cell? ⟨w.heap.size + 1 + 1, 1, none⟩ = some (.int .u64 0) := by
            rw [World.cell?_setCell_other (h := by simp)]; exact r1
          exact World.cell?_setCell_same _ _ _ q1
        refine bodyPost_ret (v := .agg #[.int .i64 (hi (x + y)), .int .u64 (lo (x + y))]) (by simp [results, Try.results62, go_sem, s1, s2]) rfl ⟨rfl, (HB5.out.setCell (by show w.heap.size ≤ w.heap.size + 1 + 1; omega) _).setCell (by show w.heap.size ≤ w.heap.size + 1 + 1; omega) _⟩
end Go.Proofs.Ytoenijflijfogaa

/- The contracts of the reference's Of, Minus, Times. -/
namespace Go.Proofs.Ytoenijflijfogaa
open Go.RowKit

/-- A number's box that can be written. -/
def Nb (x : Int) (b : Nat) (w : World) : Prop := b < w.heap.size ∧ w.cell? ⟨b, 0, none⟩ = some (.int .i64 (hi x)) ∧ w.cell? ⟨b, 1, none⟩ = some (.int .u64 (lo x)) ∧ ∀ o, w.frozen? ⟨b, o, none⟩ = false
theorem Nb.below {x : Int} {b : Nat} {w1 w2 : World} (h : Nb x b w1) (hb : Below w1.heap.size w1 w2) : Nb x b w2 := by
  obtain ⟨h0, h1, h2, h3⟩ := h
  have := hb.size
  exact ⟨by omega, (hb.cell (p := ⟨b, 0, none⟩) h0).trans h1, (hb.cell (p := ⟨b, 1, none⟩) h0).trans h2, fun o => (hb.frozen (p := ⟨b, o, none⟩) h0).trans (h3 o)⟩
theorem Nb.far {x : Int} {b b' i : Nat} {u : Value} {w : World} (h : Nb x b w) (hne : b' ≠ b) : Nb x b (w.setCell ⟨b', i, none⟩ u) := by
  obtain ⟨h0, h1, h2, h3⟩ := h
  refine ⟨by simp [World.setCell]; exact h0, ?_, ?_, fun o => by rw [World.frozen?_setCell]; exact h3 o⟩
  · rw [World.cell?_setCell_other (h := by intro e; injection e with e1 _; exact hne e1)]; exact h1
  · rw [World.cell?_setCell_other (h := by intro e; injection e with e1 _; exact hne e1)]; exact h2
theorem Nb.set {x y : Int} {b : Nat} {w : World} (h : Nb x b w) : Nb y b ((w.setCell ⟨b, 0, none⟩ (.int .i64 (hi y))).setCell ⟨b, 1, none⟩ (.int .u64 (lo y))) := by
  obtain ⟨h0, h1, h2, h3⟩ := h
  refine ⟨by simp [World.setCell]; exact h0, ?_, ?_, fun o => by rw [World.frozen?_setCell, World.frozen?_setCell]; exact h3 o⟩
  · rw [World.cell?_setCell_other (h := by simp)]; exact World.cell?_setCell_same _ _ _ h1
  · have q : (w.setCell ⟨b, 0, none⟩ (.int .i64 (hi y))).cell? ⟨b, 1, none⟩ = some (.int .u64 (lo x)) := by
      rw [World.cell?_setCell_other (h := by simp)]; exact h2
    exact World.cell?_setCell_same _ _ _ q
set_option maxHeartbeats 1000000 in
theorem refOf_any (v : Int) (h1 : -9223372036854775808 ≤ v) (h2 : v ≤ 9223372036854775807) (w : World) :
    Calls Try.prog 50 #[.int .i64 v] w fun e w' => e = .returned (wv v) ∧ Below w.heap.size w w' := by
  have EL : Hid (IntKind.u64.wrap v = lo v) := by unfold Hid lo; rw [IntKind.wrap_u64]
  by_cases hv : v < 0
  · have EH : Hid (hi v = -1) := by unfold Hid hi; omega
    have b1 : decide (v < 0) = true := by simpa using hv
    clear hv h1 h2
    go_enter Try.func50, Try.ntmps50
    go_wp2_with fail
    refine bodyPost_ret (v := .agg #[.int .i64 (-1), .int .u64 (IntKind.u64.wrap v)]) (by simp [results, Try.results50, go_sem]) rfl ⟨by unfold wv; rw [EL.out, EH.out], ?_⟩
    exact ((Below.refl _ _).alloc (by simp) _).alloc (by simp) _
  · have EH : Hid (hi v = 0) := by unfold Hid hi; omega
    have b1 : decide (v < 0) = false := by simpa using hv
    clear hv h1 h2
    go_enter Try.func50, Try.ntmps50
    go_wp2_with fail
    refine bodyPost_ret (v := .agg #[.int .i64 0, .int .u64 (IntKind.u64.wrap v)]) (by simp [results, Try.results50, go_sem]) rfl ⟨by unfold wv; rw [EL.out, EH.out], ?_⟩
    exact ((Below.refl _ _).alloc (by simp) _).alloc (by simp) _
end Go.Proofs.Ytoenijflijfogaa
