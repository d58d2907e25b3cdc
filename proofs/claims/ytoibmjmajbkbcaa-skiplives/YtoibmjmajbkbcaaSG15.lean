/- W12 X3 XA1 XB, joined. -/
import Derived.Test.YtoibmjmajbkbcaaSG1
import Derived.Test.YtoibmjmajbkbcaaSG12
import Derived.Test.YtoibmjmajbkbcaaSG13
import Derived.Test.YtoibmjmajbkbcaaSG14
import Derived.Laws.BitsAllLaws
import Derived.BigQuiet
import Derived.Deep.QuietTactic
/- The contract of word.Read: the number that eight bytes tell. -/
namespace Go.Proofs.Ytoibmjmajbkbcaa
open Go.RowKit

/-- The number that bytes tell, the greatest first. -/
def beval (l : List Int) : Int := l.foldl (fun n x => n * 256 + x) 0
theorem beval_snoc (l : List Int) (x : Int) : beval (l ++ [x]) = beval l * 256 + x := by simp [beval, List.foldl_append]
theorem beval_take (l : List Int) (k : Nat) (h : k < l.length) : beval (l.take (k + 1)) = beval (l.take k) * 256 + l.getD k 0 := by
  rw [take_snocI l k h, beval_snoc]
theorem beval_bd (l : List Int) (hl : ∀ x ∈ l, 0 ≤ x ∧ x ≤ 255) : ∀ k : Nat, 0 ≤ beval (l.take k) ∧ beval (l.take k) < 256 ^ k := by
  intro k
  induction k with
  | zero => simp [beval]
  | succ k ih =>
    by_cases h : k < l.length
    · rw [beval_take l k h]
      have hx := hl _ (getD_mem l k h)
      obtain ⟨i1, i2⟩ := ih
      have e : (256 : Int) ^ (k + 1) = 256 ^ k * 256 := Int.pow_succ ..
      rw [e]
      generalize (256 : Int) ^ k = q at *
      omega
    · have e : l.take (k + 1) = l.take k := by rw [List.take_of_length_le (by omega), List.take_of_length_le (by omega)]
      rw [e]
      have e2 : (256 : Int) ^ (k + 1) = 256 ^ k * 256 := Int.pow_succ ..
      rw [e2]
      generalize (256 : Int) ^ k = q at *
      omega
theorem or_byte (n x : Int) (n1 : 0 ≤ n) (n2 : n < 72057594037927936) (x1 : 0 ≤ x) (x2 : x ≤ 255) : bits .or .u64 (n * 256) x = n * 256 + x := by
  obtain ⟨a, rfl⟩ := Int.eq_ofNat_of_zero_le n1
  obtain ⟨b, rfl⟩ := Int.eq_ofNat_of_zero_le x1
  have e : (a : Int) * 256 = ((a * 256 : Nat) : Int) := by omega
  rw [e, bits_or_u64_nat _ _ (by omega) (by omega), nat_join 8 _ _ (by omega) (by omega)]
  omega

end Go.Proofs.Ytoibmjmajbkbcaa

/- The contract of the reference's From. -/
namespace Go.Proofs.Ytoibmjmajbkbcaa
open Go.RowKit

theorem DArr.new (w : World) (f : Nat → Int) (t : TypeId) : DArr (w.alloc (.cells #[.int .i64 (f 0), .int .i64 (f 1), .int .i64 (f 2), .int .i64 (f 3), .int .i64 (f 4), .int .i64 (f 5), .int .i64 (f 6), .int .i64 (f 7), .int .i64 (f 8), .int .i64 (f 9), .int .i64 (f 10), .int .i64 (f 11), .int .i64 (f 12), .int .i64 (f 13), .int .i64 (f 14), .int .i64 (f 15)] t)) w.heap.size f := by
  refine ⟨by simp, fun j hj => ?_, fun j => by simp [go_sem]⟩
  have hjj : j = 0 ∨ j = 1 ∨ j = 2 ∨ j = 3 ∨ j = 4 ∨ j = 5 ∨ j = 6 ∨ j = 7 ∨ j = 8 ∨ j = 9 ∨ j = 10 ∨ j = 11 ∨ j = 12 ∨ j = 13 ∨ j = 14 ∨ j = 15 := by omega
  rcases hjj with rfl | rfl | rfl | rfl | rfl | rfl | rfl | rfl | rfl | rfl | rfl | rfl | rfl | rfl | rfl | rfl <;> simp [go_sem]
set_option maxRecDepth 100000 in
set_option maxHeartbeats 2000000 in
theorem from_any (f : Nat → Int) (zs : List Int) (hl : zs.length = 16) (hz : ∀ x ∈ zs, 0 ≤ x ∧ x ≤ 255) (hf : ∀ j, j < 16 → f j = zs.getD (15 - j) 0) (w : World) :
    Calls Try.prog 42 #[.agg #[.int .i64 (f 0), .int .i64 (f 1), .int .i64 (f 2), .int .i64 (f 3), .int .i64 (f 4), .int .i64 (f 5), .int .i64 (f 6), .int .i64 (f 7), .int .i64 (f 8), .int .i64 (f 9), .int .i64 (f 10), .int .i64 (f 11), .int .i64 (f 12), .int .i64 (f 13), .int .i64 (f 14), .int .i64 (f 15)]] w fun e w' => e = .returned (.agg #[.int .i64 (IntKind.i64.wrap (beval (zs.take 8))), .int .u64 (beval (zs.drop 8))]) ∧ Below w.heap.size w w' := by
  have HB0 : Hid (∀ o1 o2, Below w.heap.size w ((w.alloc o1).alloc o2)) := fun o1 o2 => ((Below.refl _ _).alloc (by simp) _).alloc (by simp) _
  have HN : Hid (∀ t, DArr (w.alloc (.cells #[.int .i64 (f 0), .int .i64 (f 1), .int .i64 (f 2), .int .i64 (f 3), .int .i64 (f 4), .int .i64 (f 5), .int .i64 (f 6), .int .i64 (f 7), .int .i64 (f 8), .int .i64 (f 9), .int .i64 (f 10), .int .i64 (f 11), .int .i64 (f 12), .int .i64 (f 13), .int .i64 (f 14), .int .i64 (f 15)] t)) w.heap.size f) := fun t => DArr.new w f t
  obtain ⟨zh, hzh⟩ : ∃ zh, zh = zs.take 8 := ⟨_, rfl⟩
  obtain ⟨zl, hzl⟩ : ∃ zl, zl = zs.drop 8 := ⟨_, rfl⟩
  have lh : zh.length = 8 := by rw [hzh, List.length_take]; omega
  have ll : zl.length = 8 := by rw [hzl, List.length_drop]; omega
  have bh : ∀ x ∈ zh, 0 ≤ x ∧ x ≤ 255 := fun x hx => hz x (by rw [hzh] at hx; exact List.mem_of_mem_take hx)
  have bl : ∀ x ∈ zl, 0 ≤ x ∧ x ≤ 255 := fun x hx => hz x (by rw [hzl] at hx; exact List.mem_of_mem_drop hx)
  have HFH : Hid (∀ m, m < 8 → f (8 + (7 - m)) = zh.getD m 0) := by
    intro m hm
    rw [hf _ (by omega), hzh]
    have e : 15 - (8 + (7 - m)) = m := by omega
    rw [e]; simp [hm]
  have HFL : Hid (∀ m, m < 8 → f (7 - m) = zl.getD m 0) := by
    intro m hm
    rw [hf _ (by omega), hzl]
    have e : 15 - (7 - m) = 8 + m := by omega
    rw [e]; simp [List.getElem?_drop]
  rw [← hzh, ← hzl]
  clear hz hf hl hzh hzl
  go_enter Try.func42, Try.ntmps42
  go_wp2_with fail
  go_loopw [3, 4, 5] (fun lo hi i wr => ∃ m : Nat, m ≤ 8 ∧ i = .int .i64 (7 - (m : Int)) ∧ lo = .int .u64 (beval (zl.take m)) ∧ hi = .int .u64 (beval (zh.take m)) ∧ DArr wr w.heap.size f ∧ wr.cell? ⟨w.heap.size + 1, 0, none⟩ = some (.int .i64 0) ∧ wr.cell? ⟨w.heap.size + 1, 1, none⟩ = some (.int .u64 0) ∧ wr.frozen? ⟨w.heap.size + 1, 0, none⟩ = false ∧ wr.frozen? ⟨w.heap.size + 1, 1, none⟩ = false ∧ Below w.heap.size w wr) (fun _ _ i _ => (intOf i + 1).toNat)
  case atStart =>
    refine ⟨0, by omega, rfl, rfl, rfl, (HN.out _).below ((Below.refl _ _).alloc (Nat.le_refl _) _), by simp [go_sem], by simp [go_sem], by simp [go_sem], by simp [go_sem], HB0.out _ _⟩
  case round =>
    obtain ⟨m, hm, rfl, rfl, rfl, hd, r0, r1, r2, r3, hbr⟩ := hrel
    by_cases hlt : m < 8
    · obtain ⟨k, hk⟩ : ∃ k : Nat, (7 - (m : Int)) = (k : Int) := ⟨7 - m, by omega⟩
      have ek : k = 7 - m := by omega
      have c1 := hd.2.1 k (by omega)
      have c2 := hd.2.1 (8 + k) (by omega)
      have HT1 : Hid _ := beval_take zl m (by omega)
      have HT2 : Hid _ := beval_take zh m (by omega)
      have d1 := beval_bd zl bl m
      have d2 := beval_bd zh bh m
      have e1 := bl _ (getD_mem zl m (by omega))
      have e2 := bh _ (getD_mem zh m (by omega))
      have hq : (256 : Int) ^ m ≤ 72057594037927936 := by
        have : (256 : Int) ^ m ≤ 256 ^ 7 := by
          have h7 : (256 : Nat) ^ m ≤ 256 ^ 7 := Nat.pow_le_pow_right (by omega) (by omega)
          exact_mod_cast h7
        simpa using this
      rw [ek] at c1 c2
      rw [HFL.out m hlt] at c1
      rw [HFH.out m hlt] at c2
      rw [← ek] at c1 c2
      generalize zl.getD m 0 = x at *
      generalize zh.getD m 0 = y at *
      generalize beval (zl.take m) = A at *
      generalize beval (zh.take m) = B at *
      generalize (256 : Int) ^ m = q at *
      have A1 : A < 72057594037927936 := by omega
      have B1 : B < 72057594037927936 := by omega
      have A0 := d1.1
      have B0 := d2.1
      obtain ⟨x0, x1⟩ := e1
      obtain ⟨y0, y1⟩ := e2
      have w1 : IntKind.u64.wrap (256 * A) = 256 * A := by rw [IntKind.wrap_u64]; omega
      have w2 : IntKind.u64.wrap (256 * B) = 256 * B := by rw [IntKind.wrap_u64]; omega
      have w3 : IntKind.u64.wrap (256 * A + x) = 256 * A + x := by rw [IntKind.wrap_u64]; omega
      have w4 : IntKind.u64.wrap (256 * B + y) = 256 * B + y := by rw [IntKind.wrap_u64]; omega
      have w5 : IntKind.u64.wrap x = x := by rw [IntKind.wrap_u64]; omega
      have w6 : IntKind.u64.wrap y = y := by rw [IntKind.wrap_u64]; omega
      have k7 : (k : Int) ≤ 7 := by omega
      have k16 : (k : Int) < 16 := by omega
      obtain ⟨k8, hk8⟩ : ∃ k8, k8 = 8 + k := ⟨_, rfl⟩
      have w7 : IntKind.i64.wrap (8 + (k : Int)) = (k8 : Int) := by rw [IntKind.wrap_i64]; omega
      have k816 : (k8 : Int) < 16 := by omega
      rw [← hk8] at c2
      have HB : Hid (Below w.heap.size w wr) := hbr
      have HR : Hid (DArr wr w.heap.size f ∧ wr.cell? ⟨w.heap.size + 1, 0, none⟩ = some (.int .i64 0) ∧ wr.cell? ⟨w.heap.size + 1, 1, none⟩ = some (.int .u64 0) ∧ wr.frozen? ⟨w.heap.size + 1, 0, none⟩ = false ∧ wr.frozen? ⟨w.heap.size + 1, 1, none⟩ = false) := ⟨hd, r0, r1, r2, r3⟩
      have HK : Hid (7 - (m : Int) = (k : Int)) := hk
      have HMM : Hid (k = 7 - m) := ek
      rw [hk]
      clear hd hbr d1 d2 hq bh bl r0 r1 r2 r3 hk ek hk8
      go_wp2_with fail
      refine wp_region_noPanic ?_
      refine wp_region_held_drew (S := (fun w' => w'.cell? ⟨w.heap.size, k, none⟩ = some (.int .i64 x) ∧ w'.cell? ⟨w.heap.size, k8, none⟩ = some (.int .i64 y))) (by kernel_rfl) ?_ (fun hHeld => ?_)
      · exact ⟨c1, c2⟩
      refine wpAnyH_take (i := 0) (v := .int .u64 A) rfl (by kernel_rfl) (by kernel_rfl) (by kernel_rfl) (fun _ _ _ h => h) (Or.inl ⟨by rfl, ?_⟩) (by assumption) ?_
      · (intro w1 hSw; (try dsimp only at hSw); go_simp)
      simp only [List.getElem_toArray, List.getElem_cons_zero, Act.put, List.setIfInBounds_toArray, List.set_cons_zero, List.set_cons_succ]
      refine wpAnyH_take (i := 1) (v := .int .u64 (256 * A)) rfl (by kernel_rfl) (by kernel_rfl) (by kernel_rfl) (fun _ _ _ h => h) (Or.inl ⟨by rfl, ?_⟩) (by assumption) ?_
      · (intro w1 hSw; (try dsimp only at hSw); go_simp)
      simp only [List.getElem_toArray, List.getElem_cons_succ, List.getElem_cons_zero, Act.put, List.setIfInBounds_toArray, List.set_cons_zero, List.set_cons_succ]
      refine wpAnyH_take (i := 2) (v := .int .i64 k) rfl (by kernel_rfl) (by kernel_rfl) (by kernel_rfl) (fun _ _ _ h => h) (Or.inl ⟨by rfl, ?_⟩) (by assumption) ?_
      · (intro w1 hSw; (try dsimp only at hSw); go_simp)
      simp only [List.getElem_toArray, List.getElem_cons_succ, List.getElem_cons_zero, Act.put, List.setIfInBounds_toArray, List.set_cons_zero, List.set_cons_succ]
      refine wpAnyH_take (i := 3) (v := .pointer (some ⟨w.heap.size, k, none⟩)) rfl (by kernel_rfl) (by kernel_rfl) (by kernel_rfl) (fun _ _ _ h => h) (Or.inl ⟨by rfl, ?_⟩) (by assumption) ?_
      · (intro w1 hSw; (try dsimp only at hSw); go_simp)
      simp only [List.getElem_toArray, List.getElem_cons_succ, List.getElem_cons_zero, Act.put, List.setIfInBounds_toArray, List.set_cons_zero, List.set_cons_succ]
      refine wpAnyH_take (i := 4) (v := .int .i64 x) rfl (by kernel_rfl) (by kernel_rfl) (by kernel_rfl) (fun _ _ _ h => h) (Or.inl ⟨by rfl, ?_⟩) (by assumption) ?_
      · (intro w1 hSw; (try dsimp only at hSw); go_simp)
      simp only [List.getElem_toArray, List.getElem_cons_succ, List.getElem_cons_zero, Act.put, List.setIfInBounds_toArray, List.set_cons_zero, List.set_cons_succ]
      refine wpAnyH_take (i := 5) (v := .int .u64 x) rfl (by kernel_rfl) (by kernel_rfl) (by kernel_rfl) (fun _ _ _ h => h) (Or.inl ⟨by rfl, ?_⟩) (by assumption) ?_
      · (intro w1 hSw; (try dsimp only at hSw); go_simp)
      simp only [List.getElem_toArray, List.getElem_cons_succ, List.getElem_cons_zero, Act.put, List.setIfInBounds_toArray, List.set_cons_zero, List.set_cons_succ]
      refine wpAnyH_take (i := 6) (v := .int .u64 (256 * A + x)) rfl (by kernel_rfl) (by kernel_rfl) (by kernel_rfl) (fun _ _ _ h => h) (Or.inl ⟨by rfl, ?_⟩) (by assumption) ?_
      · (intro w1 hSw; (try dsimp only at hSw); go_simp)
      simp only [List.getElem_toArray, List.getElem_cons_succ, List.getElem_cons_zero, Act.put, List.setIfInBounds_toArray, List.set_cons_zero, List.set_cons_succ]
      refine wpAnyH_take (i := 7) (v := .int .u64 B) rfl (by kernel_rfl) (by kernel_rfl) (by kernel_rfl) (fun _ _ _ h => h) (Or.inl ⟨by rfl, ?_⟩) (by assumption) ?_
      · (intro w1 hSw; (try dsimp only at hSw); go_simp)
      simp only [List.getElem_toArray, List.getElem_cons_succ, List.getElem_cons_zero, Act.put, List.setIfInBounds_toArray, List.set_cons_zero, List.set_cons_succ]
      refine wpAnyH_take (i := 8) (v := .int .u64 (256 * B)) rfl (by kernel_rfl) (by kernel_rfl) (by kernel_rfl) (fun _ _ _ h => h) (Or.inl ⟨by rfl, ?_⟩) (by assumption) ?_
      · (intro w1 hSw; (try dsimp only at hSw); go_simp)
      simp only [List.getElem_toArray, List.getElem_cons_succ, List.getElem_cons_zero, Act.put, List.setIfInBounds_toArray, List.set_cons_zero, List.set_cons_succ]
      refine wpAnyH_take (i := 9) (v := .int .i64 k) rfl (by kernel_rfl) (by kernel_rfl) (by kernel_rfl) (fun _ _ _ h => h) (Or.inl ⟨by rfl, ?_⟩) (by assumption) ?_
      · (intro w1 hSw; (try dsimp only at hSw); go_simp)
      simp only [List.getElem_toArray, List.getElem_cons_succ, List.getElem_cons_zero, Act.put, List.setIfInBounds_toArray, List.set_cons_zero, List.set_cons_succ]
      refine wpAnyH_take (i := 10) (v := .int .i64 k8) rfl (by kernel_rfl) (by kernel_rfl) (by kernel_rfl) (fun _ _ _ h => h) (Or.inl ⟨by rfl, ?_⟩) (by assumption) ?_
      · (intro w1 hSw; (try dsimp only at hSw); go_simp)
      simp only [List.getElem_toArray, List.getElem_cons_succ, List.getElem_cons_zero, Act.put, List.setIfInBounds_toArray, List.set_cons_zero, List.set_cons_succ]
      refine wpAnyH_take (i := 11) (v := .pointer (some ⟨w.heap.size, k8, none⟩)) rfl (by kernel_rfl) (by kernel_rfl) (by kernel_rfl) (fun _ _ _ h => h) (Or.inl ⟨by rfl, ?_⟩) (by assumption) ?_
      · (intro w1 hSw; (try dsimp only at hSw); go_simp)
      simp only [List.getElem_toArray, List.getElem_cons_succ, List.getElem_cons_zero, Act.put, List.setIfInBounds_toArray, List.set_cons_zero, List.set_cons_succ]
      refine wpAnyH_take (i := 12) (v := .int .i64 y) rfl (by kernel_rfl) (by kernel_rfl) (by kernel_rfl) (fun _ _ _ h => h) (Or.inl ⟨by rfl, ?_⟩) (by assumption) ?_
      · (intro w1 hSw; (try dsimp only at hSw); go_simp)
      simp only [List.getElem_toArray, List.getElem_cons_succ, List.getElem_cons_zero, Act.put, List.setIfInBounds_toArray, List.set_cons_zero, List.set_cons_succ]
      refine wpAnyH_take (i := 13) (v := .int .u64 y) rfl (by kernel_rfl) (by kernel_rfl) (by kernel_rfl) (fun _ _ _ h => h) (Or.inl ⟨by rfl, ?_⟩) (by assumption) ?_
      · (intro w1 hSw; (try dsimp only at hSw); go_simp)
      simp only [List.getElem_toArray, List.getElem_cons_succ, List.getElem_cons_zero, Act.put, List.setIfInBounds_toArray, List.set_cons_zero, List.set_cons_succ]
      refine wpAnyH_take (i := 14) (v := .int .u64 (256 * B + y)) rfl (by kernel_rfl) (by kernel_rfl) (by kernel_rfl) (fun _ _ _ h => h) (Or.inl ⟨by rfl, ?_⟩) (by assumption) ?_
      · (intro w1 hSw; (try dsimp only at hSw); go_simp)
      simp only [List.getElem_toArray, List.getElem_cons_succ, List.getElem_cons_zero, Act.put, List.setIfInBounds_toArray, List.set_cons_zero, List.set_cons_succ]
      refine wpAnyH_take (i := 15) (v := .int .u64 (256 * A + x)) rfl (by kernel_rfl) (by kernel_rfl) (by kernel_rfl) (fun _ _ _ h => h) (Or.inl ⟨by rfl, ?_⟩) (by assumption) ?_
      · (intro w1 hSw; (try dsimp only at hSw); go_simp)
      simp only [List.getElem_toArray, List.getElem_cons_succ, List.getElem_cons_zero, Act.put, List.setIfInBounds_toArray, List.set_cons_zero, List.set_cons_succ]
      refine wpAnyH_take (i := 16) (v := .int .u64 (256 * B + y)) rfl (by kernel_rfl) (by kernel_rfl) (by kernel_rfl) (fun _ _ _ h => h) (Or.inl ⟨by rfl, ?_⟩) (by assumption) ?_
      · (intro w1 hSw; (try dsimp only at hSw); go_simp)
      simp only [List.getElem_toArray, List.getElem_cons_succ, List.getElem_cons_zero, Act.put, List.setIfInBounds_toArray, List.set_cons_zero, List.set_cons_succ]
      refine wpAnyH_done (by kernel_rfl) ?_ _
      refine NoPanic.normal ?_
      go_wp2_with fail
      go_roundw
      case rel =>
        obtain ⟨q1, q2, q3, q4, q5⟩ := HR.out
        refine ⟨m + 1, by omega, ?_, ?_, ?_, q1, q2, q3, q4, q5, HB.out.drew⟩
        · have := HK.out; exact congrArg (Value.int .i64) (by omega)
        · rw [HT1.out]; exact congrArg (Value.int .u64) (by omega)
        · rw [HT2.out]; exact congrArg (Value.int .u64) (by omega)
      case measure => simp [intOf]
    · have hm8 : m = 8 := by omega
      subst hm8
      have t1 : zl.take 8 = zl := List.take_of_length_le (by omega)
      have t2 : zh.take 8 = zh := List.take_of_length_le (by omega)
      rw [t1, t2]
      have HB : Hid (Below w.heap.size w wr) := hbr
      have hsz := hbr.size
      have hi7 : (7 - ((8 : Nat) : Int)) = -1 := by omega
      rw [hi7]
      clear hd hbr bh bl t1 t2 lh ll HFH HFL HN HB0 hi7
      obtain ⟨A, HA⟩ : ∃ A, Hid (A = beval zl) := ⟨_, rfl⟩
      obtain ⟨B, HBB⟩ : ∃ B, Hid (B = beval zh) := ⟨_, rfl⟩
      rw [← HA.out, ← HBB.out]
      go_wp2_with fail
      refine bodyPost_ret (v := .agg #[.int .i64 (wrap64 B), .int .u64 A]) (by simp [results, Try.results42, go_sem, *]) rfl ⟨by rw [← HA.out, ← HBB.out, IntKind.wrap_i64]; simp [wrap64], ?_⟩
      exact (HB.out.setCell (p := ⟨w.heap.size + 1, 0, none⟩) (by show w.heap.size ≤ w.heap.size + 1; omega) _).setCell (p := ⟨w.heap.size + 1, 1, none⟩) (by show w.heap.size ≤ w.heap.size + 1; omega) _
end Go.Proofs.Ytoibmjmajbkbcaa

/- The digits of sums: pure; the reference's From, of any number's digits. -/
namespace Go.Proofs.Ytoibmjmajbkbcaa
open Go.RowKit

theorem dF_div (x : Int) (j : Nat) (hj : j < 16) : dF x j = x / 256 ^ j % 256 := by
  unfold dF dig uhD hi lo
  match j, hj with
  | 0, _ => simp
  | 1, _ => simp; omega
  | 2, _ => simp; omega
  | 3, _ => simp; omega
  | 4, _ => simp; omega
  | 5, _ => simp; omega
  | 6, _ => simp; omega
  | 7, _ => simp; omega
  | 8, _ => simp
  | 9, _ => simp; omega
  | 10, _ => simp; omega
  | 11, _ => simp; omega
  | 12, _ => simp; omega
  | 13, _ => simp; omega
  | 14, _ => simp; omega
  | 15, _ => simp; omega
  | k + 16, h => omega
theorem dF_bds (x : Int) (j : Nat) : 0 ≤ dF x j ∧ dF x j ≤ 255 := by unfold dF dig; split <;> omega
theorem pow256 (x : Int) (j : Nat) : x / 256 ^ (j + 1) = x / 256 ^ j / 256 := by
  rw [Int.pow_succ, ← Int.ediv_ediv_of_nonneg (Int.le_of_lt (Int.pow_pos (by decide)))]
/-- What is carried. -/
def cyF (x y : Int) (j : Nat) : Int := (x + y) / 256 ^ j - x / 256 ^ j - y / 256 ^ j
theorem cy_zero (x y : Int) : cyF x y 0 = 0 := by unfold cyF; simp; omega
theorem cy_rem (x y : Int) (j : Nat) (hj : j < 16) : (dF x j + dF y j + cyF x y j) % 256 = dF (x + y) j := by
  rw [dF_div x j hj, dF_div y j hj, dF_div (x + y) j hj]
  unfold cyF
  generalize x / 256 ^ j = a, y / 256 ^ j = b, (x + y) / 256 ^ j = c
  omega
theorem cy_quo (x y : Int) (j : Nat) (hj : j < 16) : (dF x j + dF y j + cyF x y j) / 256 = cyF x y (j + 1) := by
  rw [dF_div x j hj, dF_div y j hj]
  unfold cyF
  rw [pow256, pow256, pow256]
  generalize x / 256 ^ j = a, y / 256 ^ j = b, (x + y) / 256 ^ j = c
  omega
theorem cy_bd (x y : Int) : ∀ j, j ≤ 16 → 0 ≤ cyF x y j ∧ cyF x y j ≤ 1
  | 0, _ => by rw [cy_zero]; omega
  | j + 1, h => by
    have ih := cy_bd x y j (by omega)
    have h1 := dF_bds x j
    have h2 := dF_bds y j
    rw [← cy_quo x y j (by omega)]
    omega
theorem dF_minus (x : Int) (j : Nat) (hj : j < 16) : 255 - dF x j = dF (-x - 1) j := by
  rw [dF_div x j hj, dF_div _ j hj]
  have hp : (0 : Int) < 256 ^ j := Int.pow_pos (by decide)
  have e : (-x - 1) / 256 ^ j = -(x / 256 ^ j) - 1 := by
    have h1 := Int.mul_ediv_add_emod x (256 ^ j)
    have h2 := Int.emod_nonneg x (show (256 : Int) ^ j ≠ 0 by omega)
    have h3 := Int.emod_lt_of_pos x hp
    generalize x / 256 ^ j = q at *
    generalize x % 256 ^ j = r at *
    have e2 : -x - 1 = (256 ^ j - 1 - r) + 256 ^ j * (-q - 1) := by
      rw [← h1, Int.mul_sub, Int.mul_neg]; omega
    rw [e2, Int.add_mul_ediv_left _ _ (by omega), Int.ediv_eq_zero_of_lt (by omega) (by omega)]
    omega
  rw [e]
  generalize x / 256 ^ j = q
  omega
theorem from_N (x : Int) (w : World) : Calls Try.prog 42 #[.agg #[.int .i64 (dF x 0), .int .i64 (dF x 1), .int .i64 (dF x 2), .int .i64 (dF x 3), .int .i64 (dF x 4), .int .i64 (dF x 5), .int .i64 (dF x 6), .int .i64 (dF x 7), .int .i64 (dF x 8), .int .i64 (dF x 9), .int .i64 (dF x 10), .int .i64 (dF x 11), .int .i64 (dF x 12), .int .i64 (dF x 13), .int .i64 (dF x 14), .int .i64 (dF x 15)]] w fun e w' => e = .returned (wv x) ∧ Below w.heap.size w w' := by
  have h := from_any (dF x) ((List.range 16).map fun m => dF x (15 - m)) (by simp) (by
    intro z hz
    obtain ⟨m, _, rfl⟩ := List.mem_map.1 hz
    exact dF_bds x _) (by
    intro j hj
    have e : 15 - (15 - j) = j := by omega
    have hl : 15 - j < 16 := by omega
    simp [hl, e]) w
  have e1 : IntKind.i64.wrap (beval (((List.range 16).map fun m => dF x (15 - m)).take 8)) = hi x := by
    have e : ((List.range 16).map fun m => dF x (15 - m)).take 8 = [dF x 15, dF x 14, dF x 13, dF x 12, dF x 11, dF x 10, dF x 9, dF x 8] := rfl
    rw [e]
    simp only [beval, List.foldl_cons, List.foldl_nil]
    rw [IntKind.wrap_i64]
    unfold hi
    rw [dF_div x 15 (by decide), dF_div x 14 (by decide), dF_div x 13 (by decide), dF_div x 12 (by decide), dF_div x 11 (by decide), dF_div x 10 (by decide), dF_div x 9 (by decide), dF_div x 8 (by decide)]
    simp
    omega
  have e2 : beval (((List.range 16).map fun m => dF x (15 - m)).drop 8) = lo x := by
    have e : ((List.range 16).map fun m => dF x (15 - m)).drop 8 = [dF x 7, dF x 6, dF x 5, dF x 4, dF x 3, dF x 2, dF x 1, dF x 0] := rfl
    rw [e]
    simp only [beval, List.foldl_cons, List.foldl_nil]
    unfold lo
    rw [dF_div x 7 (by decide), dF_div x 6 (by decide), dF_div x 5 (by decide), dF_div x 4 (by decide), dF_div x 3 (by decide), dF_div x 2 (by decide), dF_div x 1 (by decide), dF_div x 0 (by decide)]
    simp
    omega
  rw [e1, e2] at h
  exact h
end Go.Proofs.Ytoibmjmajbkbcaa

/- A box of a number, and worlds that were drawn from. -/
namespace Go.Proofs.Ytoibmjmajbkbcaa
open Go.RowKit

/-- A box of a number. -/
def NBox (x : Int) (b : Nat) (w : World) : Prop := b < w.heap.size ∧ w.cell? ⟨b, 0, none⟩ = some (.int .i64 (hi x)) ∧ w.cell? ⟨b, 1, none⟩ = some (.int .u64 (lo x))
theorem NBox.below {x : Int} {b : Nat} {w1 w2 : World} (h : NBox x b w1) (hb : Below w1.heap.size w1 w2) : NBox x b w2 := by
  obtain ⟨h0, h1, h2⟩ := h
  have := hb.size
  exact ⟨by omega, (hb.cell (p := ⟨b, 0, none⟩) h0).trans h1, (hb.cell (p := ⟨b, 1, none⟩) h0).trans h2⟩
theorem bel_dN {n : Nat} {w1 w2 : World} (h : Below n w1 w2) (k : Nat) : Below n w1 (w2.drewN k) := h.trans ⟨rfl, rfl, rfl, Nat.le_refl _, fun _ _ => rfl⟩
end Go.Proofs.Ytoibmjmajbkbcaa
