/- WN0 WIt MN1 SFL SFB, joined. -/
import Derived.Test.YtilbffgpniomcaaGreatDoorQQ1
import Derived.Test.YtilbffgpniomcaaGreatDoorQQ4
import Derived.Test.YtilbffgpniomcaaGreatDoorQQ15
import Derived.Lib.AtoiAll
import Derived.Lib.AtoiAllCases
import Derived.Lib.ItoaNum
import Derived.Lib.ItoaMem
import Derived.Shelf.LaysM
import Derived.Shelf.Strconv.Itoa3
import Derived.Test.YtilbffgpniomcaaGreatDoorRows
import Derived.Lib.AppendIntMem
import Derived.Shelf.SlGeneric
import Derived.Shelf.SlIter.Nil
import Derived.Shelf.SortM.Plain
import Derived.Shelf.SortM.SortNone
/- Numbers of files, in digits: no program in sight. -/
namespace Go.Proofs.YtilbffgpniomcaaGreatDoor
open Go.Lib

theorem pu_app : ∀ (l r : List UInt8) (a u : Nat), parseUint10 a l = .ok u → parseUint10 a (l ++ r) = parseUint10 u r
  | [], r, a, u, h => by simp only [parseUint10] at h; injection h with h; rw [h]; rfl
  | c :: l, r, a, u, h => by
    rw [List.cons_append, parseUint10]
    rw [parseUint10] at h
    by_cases h1 : 48 ≤ c.toNat ∧ c.toNat ≤ 57
    · rw [if_pos h1] at h ⊢
      by_cases h2 : 1844674407370955162 ≤ a
      · rw [if_pos h2] at h; cases h
      · rw [if_neg h2] at h ⊢
        by_cases h3 : 18446744073709551616 ≤ a * 10 + (c.toNat - 48)
        · rw [if_pos h3] at h; cases h
        · rw [if_neg h3] at h ⊢
          exact pu_app l r _ u h
    · rw [if_neg h1] at h; cases h
theorem pu_one {d a : Nat} (hd : d < 10) (ha : a < 1000000000000000) : parseUint10 a [UInt8.ofNat (48 + d)] = .ok (a * 10 + d) := by
  have e : (UInt8.ofNat (48 + d)).toNat = 48 + d := by simp; omega
  unfold parseUint10
  rw [e, if_pos (by omega), if_neg (by omega), if_neg (by omega)]
  simp only [parseUint10]
  congr 1
  omega
theorem pu_dec : ∀ (n : Nat), n < 1000000000000000 → parseUint10 0 (decDigits n) = .ok n := by
  intro n
  induction n using Nat.strongRecOn with
  | _ n ih =>
    intro h
    by_cases h1 : n < 10
    · rw [decDigits_one h1, pu_one h1 (by omega)]; simp
    · rw [decDigits, dif_neg h1, pu_app _ _ _ _ (ih (n / 10) (by omega) (by omega)), pu_one (by omega) (by omega)]
      congr 1; omega
theorem dec_digit (n : Nat) : ∀ c ∈ decDigits n, 48 ≤ c.toNat ∧ c.toNat ≤ 57 := by
  induction n using Nat.strongRecOn with
  | _ n ih =>
    intro c hc
    by_cases h1 : n < 10
    · rw [decDigits_one h1] at hc
      simp at hc
      rw [hc]; simp; omega
    · rw [decDigits, dif_neg h1] at hc
      rcases List.mem_append.1 hc with hc | hc
      · exact ih (n / 10) (by omega) c hc
      · simp at hc; rw [hc]; simp; omega
theorem dec_pos (n : Nat) : 0 < (decDigits n).length := by rw [decDigits_length]; exact nDigits_pos n
theorem atoi_dec {n : Nat} (h : n < 1000000000000000) : atoiAll (decDigits n) = .ok (n : Int) := by
  have hp := pu_dec n h
  have h0 := dec_pos n
  have hd := dec_digit n
  cases e : decDigits n with
  | nil => rw [e] at h0; simp at h0
  | cons c r =>
    rw [e] at hp hd
    have hc := hd c (List.mem_cons_self ..)
    rw [atoiAll_plain c r (by omega) (by omega)]
    unfold parseMag
    rw [if_neg (by simp), hp]
    unfold signless
    simp only
    rw [if_neg (by omega)]
/-- A file's name. -/
def nmF (p : List UInt8) (n : Int) : List UInt8 := if 1 ≤ n ∧ n ≤ 1099511627776 then p ++ itoa n else []
theorem nmF_yes {p : List UInt8} {n : Int} (h1 : 1 ≤ n) (h2 : n ≤ 1099511627776) : nmF p n = p ++ decDigits n.toNat := by
  unfold nmF itoa; rw [if_pos ⟨h1, h2⟩, if_neg (by omega)]
theorem nmF_no {p : List UInt8} {n : Int} (h : ¬ (1 ≤ n ∧ n ≤ 1099511627776)) : nmF p n = [] := by unfold nmF; rw [if_neg h]
theorem dec_inj {m n : Nat} (hm : m < 1000000000000000) (hn : n < 1000000000000000) (h : decDigits m = decDigits n) : m = n := by
  have a := pu_dec m hm
  rw [h, pu_dec n hn] at a
  injection a with a
  exact a.symm
theorem nmF_inj {p : List UInt8} {m n : Int} (h1 : 1 ≤ m) (h2 : m ≤ 1099511627776) (h3 : 1 ≤ n) (h4 : n ≤ 1099511627776) (h : nmF p m = nmF p n) : m = n := by
  rw [nmF_yes h1 h2, nmF_yes h3 h4] at h
  have := dec_inj (by omega) (by omega) (List.append_cancel_left h)
  omega
theorem nD_le (k n : Nat) (h : n < 10 ^ (k + 1)) : nDigits n ≤ k + 1 := by
  induction k generalizing n with
  | zero => rw [nDigits_small (by simpa using h)]; omega
  | succ k ih =>
    by_cases h1 : n < 10
    · rw [nDigits_small h1]; omega
    · rw [nDigits_big h1]
      have := ih (n / 10) (by rw [Nat.pow_succ] at h; omega)
      omega
theorem dec_len {n : Nat} (h : n ≤ 1099511627776) : (decDigits n).length ≤ 13 := by
  rw [decDigits_length]; exact nD_le 12 n (by omega)
end Go.Proofs.YtilbffgpniomcaaGreatDoor

/- strconv at this program (written by mkwit.py, for one seat). -/
namespace Go.Proofs.YtilbffgpniomcaaGreatDoor
open Go.Shelf Go.Sort Go.RowKit Go.Lib

def witM_ren : Go.Shelf.Ren := ⟨fun | 171 => 74 | 243 => 95 | 246 => 118 | 283 => 134 | 284 => 135 | 285 => 136 | 286 => 137 | 129 => 115 | 317 => 143 | 318 => 144 | 319 => 145 | 320 => 146 | 337 => 148 | 338 => 149 | n => n, fun | 3 => 3 | 9 => 9 | 2 => 2 | 4 => 4 | 171 => 182 | 0 => 0 | 53 => 98 | 37 => 22 | 5 => 5 | 173 => 184 | 212 => 193 | 51 => 116 | 20 => 20 | 213 => 194 | 46 => 145 | 232 => 196 | 233 => 197 | n => n, fun | 17 => 0 | 18 => 1 | 19 => 2 | n => n⟩
theorem witM : Go.Proofs.LaysM.n171 Tryz.prog witM_ren := {
  mixed := by kernel_rfl
  f129 := Tryz.func115.trans (congrArg some (by kernel_rfl))
  f171 := Tryz.func74.trans (congrArg some (by kernel_rfl))
  f243 := Tryz.func95.trans (congrArg some (by kernel_rfl))
  f246 := Tryz.func118.trans (congrArg some (by kernel_rfl))
  f283 := Tryz.func134.trans (congrArg some (by kernel_rfl))
  f284 := Tryz.func135.trans (congrArg some (by kernel_rfl))
  f285 := Tryz.func136.trans (congrArg some (by kernel_rfl))
  f286 := Tryz.func137.trans (congrArg some (by kernel_rfl))
  f317 := Tryz.func143.trans (congrArg some (by kernel_rfl))
  f318 := Tryz.func144.trans (congrArg some (by kernel_rfl))
  f319 := Tryz.func145.trans (congrArg some (by kernel_rfl))
  f320 := Tryz.func146.trans (congrArg some (by kernel_rfl))
  f337 := Tryz.func148.trans (congrArg some (by kernel_rfl))
  f338 := Tryz.func149.trans (congrArg some (by kernel_rfl))
  t0 := Tryz.underlying0
  a0 := Tryz.isAgg0
  z0 := Tryz.sizeOf0
  v0 := Tryz.zeroValue0
  t2 := Tryz.underlying2
  a2 := Tryz.isAgg2
  z2 := Tryz.sizeOf2
  v2 := Tryz.zeroValue2
  t3 := Tryz.underlying3
  a3 := Tryz.isAgg3
  z3 := Tryz.sizeOf3
  v3 := Tryz.zeroValue3
  t4 := Tryz.underlying4
  a4 := Tryz.isAgg4
  z4 := Tryz.sizeOf4
  v4 := Tryz.zeroValue4
  t5 := Tryz.underlying5
  a5 := Tryz.isAgg5
  z5 := Tryz.sizeOf5
  v5 := Tryz.zeroValue5
  t9 := Tryz.underlying9
  a9 := Tryz.isAgg9
  z9 := Tryz.sizeOf9
  v9 := Tryz.zeroValue9
  t20 := Tryz.underlying20
  a20 := Tryz.isAgg20
  z20 := Tryz.sizeOf20
  v20 := Tryz.zeroValue20
  t37 := Tryz.underlying22
  a37 := Tryz.isAgg22
  z37 := Tryz.sizeOf22
  v37 := Tryz.zeroValue22
  t46 := Tryz.underlying145
  a46 := Tryz.isAgg145
  z46 := Tryz.sizeOf145
  v46 := Tryz.zeroValue145
  t51 := Tryz.underlying116
  a51 := Tryz.isAgg116
  z51 := Tryz.sizeOf116
  v51 := Tryz.zeroValue116
  t53 := Tryz.underlying98
  a53 := Tryz.isAgg98
  z53 := Tryz.sizeOf98
  v53 := Tryz.zeroValue98
  t171 := Tryz.underlying182
  a171 := Tryz.isAgg182
  z171 := Tryz.sizeOf182
  v171 := Tryz.zeroValue182
  t173 := Tryz.underlying184
  a173 := Tryz.isAgg184
  z173 := Tryz.sizeOf184
  v173 := Tryz.zeroValue184
  t212 := Tryz.underlying193
  a212 := Tryz.isAgg193
  z212 := Tryz.sizeOf193
  v212 := Tryz.zeroValue193
  t213 := Tryz.underlying194
  a213 := Tryz.isAgg194
  z213 := Tryz.sizeOf194
  t232 := Tryz.underlying196
  a232 := Tryz.isAgg196
  z232 := Tryz.sizeOf196
  v232 := Tryz.zeroValue196
  t233 := Tryz.underlying197
  a233 := Tryz.isAgg197
  z233 := Tryz.sizeOf197
  v233 := Tryz.zeroValue197
  g17 := by kernel_rfl
  g18 := by kernel_rfl
  g19 := by kernel_rfl
  i0 := by kernel_rfl
  i2 := by kernel_rfl
  i3 := by kernel_rfl
  i4 := by kernel_rfl
  i5 := by kernel_rfl
  i9 := by kernel_rfl
  i20 := by kernel_rfl
  i37 := by kernel_rfl
  i46 := by kernel_rfl
  i51 := by kernel_rfl
  i53 := by kernel_rfl
  i171 := by kernel_rfl
  i173 := by kernel_rfl
  i212 := by kernel_rfl
  i232 := by kernel_rfl
  i233 := by kernel_rfl
  m17 := by kernel_rfl
  m18 := by kernel_rfl
  m19 := by kernel_rfl }
def witS_ren : Go.Shelf.Ren := ⟨fun | 171 => 74 | 243 => 95 | 246 => 118 | 283 => 134 | 284 => 135 | 285 => 136 | 286 => 137 | 129 => 115 | 317 => 143 | 318 => 144 | 319 => 145 | 320 => 146 | 337 => 148 | 338 => 149 | n => n, fun | 3 => 3 | 9 => 9 | 2 => 2 | 4 => 4 | 171 => 182 | 0 => 0 | 53 => 98 | 37 => 22 | 5 => 5 | 173 => 184 | 212 => 193 | 51 => 116 | 20 => 20 | 213 => 194 | 46 => 145 | 232 => 196 | 233 => 197 | n => n, fun | 17 => 0 | 18 => 1 | 19 => 2 | n => n⟩
theorem witS : Go.Proofs.Lays.n171 Tryz.prog witS_ren := {
  mixed := by kernel_rfl
  f129 := Tryz.func115.trans (congrArg some (by kernel_rfl))
  f171 := Tryz.func74.trans (congrArg some (by kernel_rfl))
  f243 := Tryz.func95.trans (congrArg some (by kernel_rfl))
  f246 := Tryz.func118.trans (congrArg some (by kernel_rfl))
  f283 := Tryz.func134.trans (congrArg some (by kernel_rfl))
  f284 := Tryz.func135.trans (congrArg some (by kernel_rfl))
  f285 := Tryz.func136.trans (congrArg some (by kernel_rfl))
  f286 := Tryz.func137.trans (congrArg some (by kernel_rfl))
  f317 := Tryz.func143.trans (congrArg some (by kernel_rfl))
  f318 := Tryz.func144.trans (congrArg some (by kernel_rfl))
  f319 := Tryz.func145.trans (congrArg some (by kernel_rfl))
  f320 := Tryz.func146.trans (congrArg some (by kernel_rfl))
  f337 := Tryz.func148.trans (congrArg some (by kernel_rfl))
  f338 := Tryz.func149.trans (congrArg some (by kernel_rfl))
  t0 := Tryz.underlying0
  a0 := Tryz.isAgg0
  z0 := Tryz.sizeOf0
  v0 := Tryz.zeroValue0
  t2 := Tryz.underlying2
  a2 := Tryz.isAgg2
  z2 := Tryz.sizeOf2
  v2 := Tryz.zeroValue2
  t3 := Tryz.underlying3
  a3 := Tryz.isAgg3
  z3 := Tryz.sizeOf3
  v3 := Tryz.zeroValue3
  t4 := Tryz.underlying4
  a4 := Tryz.isAgg4
  z4 := Tryz.sizeOf4
  v4 := Tryz.zeroValue4
  t5 := Tryz.underlying5
  a5 := Tryz.isAgg5
  z5 := Tryz.sizeOf5
  v5 := Tryz.zeroValue5
  t9 := Tryz.underlying9
  a9 := Tryz.isAgg9
  z9 := Tryz.sizeOf9
  v9 := Tryz.zeroValue9
  t20 := Tryz.underlying20
  a20 := Tryz.isAgg20
  z20 := Tryz.sizeOf20
  v20 := Tryz.zeroValue20
  t37 := Tryz.underlying22
  a37 := Tryz.isAgg22
  z37 := Tryz.sizeOf22
  v37 := Tryz.zeroValue22
  t46 := Tryz.underlying145
  a46 := Tryz.isAgg145
  z46 := Tryz.sizeOf145
  v46 := Tryz.zeroValue145
  t51 := Tryz.underlying116
  a51 := Tryz.isAgg116
  z51 := Tryz.sizeOf116
  v51 := Tryz.zeroValue116
  t53 := Tryz.underlying98
  a53 := Tryz.isAgg98
  z53 := Tryz.sizeOf98
  v53 := Tryz.zeroValue98
  t171 := Tryz.underlying182
  a171 := Tryz.isAgg182
  z171 := Tryz.sizeOf182
  v171 := Tryz.zeroValue182
  t173 := Tryz.underlying184
  a173 := Tryz.isAgg184
  z173 := Tryz.sizeOf184
  v173 := Tryz.zeroValue184
  t212 := Tryz.underlying193
  a212 := Tryz.isAgg193
  z212 := Tryz.sizeOf193
  v212 := Tryz.zeroValue193
  t213 := Tryz.underlying194
  a213 := Tryz.isAgg194
  z213 := Tryz.sizeOf194
  t232 := Tryz.underlying196
  a232 := Tryz.isAgg196
  z232 := Tryz.sizeOf196
  v232 := Tryz.zeroValue196
  t233 := Tryz.underlying197
  a233 := Tryz.isAgg197
  z233 := Tryz.sizeOf197
  v233 := Tryz.zeroValue197
  g17 := by kernel_rfl
  g18 := by kernel_rfl
  g19 := by kernel_rfl }
theorem itoa_any (n : Int) (h0 : -9223372036854775808 ≤ n) (h1 : n ≤ 9223372036854775807) (w : World) (htab : Lib.TabIs Tryz.prog w "internal/strconv.uint64pow10" .u64 Lib.pow10Tab) :
    Calls Tryz.prog 74 #[.int .i64 n] w fun e w' => e = .returned (.string ⟨(Lib.itoa n).toArray⟩) ∧ ∃ k os, w' = Go.Sort.grow (w.drewN k) os := Any.strconv_Itoa witM n h0 h1 w htab
theorem itoa_small (i : Nat) (hi : i < 100) (w : World) :
    Calls Tryz.prog 74 #[.int .i64 (i : Int)] w fun e w' => e = .returned (.string ⟨(Lib.decDigits i).toArray⟩) ∧ w' = w := Any.strconv_Itoa_small witS i hi w
end Go.Proofs.YtilbffgpniomcaaGreatDoor

/- Names of files: wal.Name. -/
namespace Go.Proofs.YtilbffgpniomcaaGreatDoor
open Go.RowKit Go.Shelf

theorem ret_bool {a b : Bool} (h : a = b) : Ending.returned (.bool a) = .returned (.bool b) := by rw [h]
def isNo (n : Int) : Bool := decide (1 ≤ n ∧ n ≤ 1099511627776)
theorem isNo_iff {n : Int} : isNo n = true ↔ 1 ≤ n ∧ n ≤ 1099511627776 := by simp [isNo]
set_option maxRecDepth 100000 in
theorem isNumber_any (t : Int) (w : World) : Calls Tryz.prog 73 #[.int .i64 t] w fun e w' => e = .returned (.bool (isNo t)) ∧ w' = w := by
  by_cases h1 : 1 ≤ t
  · by_cases h2 : t ≤ 1099511627776
    · have HF : Hid (isNo t = true) := isNo_iff.2 ⟨h1, h2⟩
      go_enter Tryz.func73, Tryz.ntmps73
      go_wp2_with fail
      go_ret
      exact ⟨by rw [HF.out]; first | rfl | (exact ret_bool (by simp; omega)), rfl⟩
    · have HF : Hid (isNo t = false) := by unfold Hid isNo; simp; omega
      have d2 : decide (t ≤ 1099511627776) = false := decide_eq_false h2
      go_enter Tryz.func73, Tryz.ntmps73
      go_wp2_with fail
      go_ret
      exact ⟨by rw [HF.out]; first | rfl | (exact ret_bool (by assumption)), rfl⟩
  · have HF : Hid (isNo t = false) := by unfold Hid isNo; simp; omega
    have d1 : decide (1 ≤ t) = false := decide_eq_false h1
    go_enter Tryz.func73, Tryz.ntmps73
    go_wp2_with fail
    go_ret
    exact ⟨by rw [HF.out]; first | rfl | (exact ret_bool (by assumption)), rfl⟩
/-- The library's table. -/
def Tb (w : World) : Prop := Lib.TabIs Tryz.prog w "internal/strconv.uint64pow10" .u64 Lib.pow10Tab
theorem wit_grow {w w' : World} {k : Nat} {os : Array Obj} (h : w' = Go.Sort.grow (w.drewN k) os) : Below w.heap.size w w' := by
  subst h
  exact Go.Lib.below_grow _ w (Nat.le_refl _) k os
theorem itoa_nat (n : Int) (h1 : 1 ≤ n) (h2 : n ≤ 1099511627776) (w : World) (hT : n < 100 ∨ Tb w) :
    Calls Tryz.prog 74 #[.int .i64 n] w fun e w' => e = .returned (.string ⟨(Lib.decDigits n.toNat).toArray⟩) ∧ Below w.heap.size w w' := by
  by_cases h : n < 100
  · obtain ⟨m, rfl⟩ : ∃ m : Nat, n = (m : Int) := ⟨n.toNat, by omega⟩
    refine (itoa_small m (by omega) w).mono ?_
    rintro e w' ⟨rfl, rfl⟩
    exact ⟨rfl, Below.refl _ _⟩
  · refine (itoa_any n (by omega) (by omega) w (hT.resolve_left h)).mono ?_
    rintro e w' ⟨rfl, k, os, hw⟩
    refine ⟨?_, wit_grow hw⟩
    unfold Lib.itoa
    rw [if_neg (by omega)]
set_option maxRecDepth 100000 in
theorem name_any (p : List UInt8) (hp : p.length ≤ 1000000) (n : Int) (w : World) (hT : n < 100 ∨ Tb w) :
    Calls Tryz.prog 38 #[.string ⟨p.toArray⟩, .int .i64 n] w fun e w' => e = .returned (.string ⟨(nmF p n).toArray⟩) ∧ Below w.heap.size w w' := by
  have HT : Hid (n < 100 ∨ Tb w) := hT
  clear hT
  cases hq : isNo n with
  | false =>
    have HF : Hid (nmF p n = []) := nmF_no (fun h => by rw [isNo_iff.2 h] at hq; cases hq)
    go_enter Tryz.func38, Tryz.ntmps38
    go_wp2_with fail
    refine (isNumber_any n w).mono ?_
    rintro e w1 ⟨rfl, hw⟩
    subst w1
    rw [hq]
    go_wp2_with fail
    go_ret
    exact ⟨by rw [HF.out]; rfl, Below.refl _ _⟩
  | true =>
    obtain ⟨h1, h2⟩ := isNo_iff.1 hq
    have HF : Hid (nmF p n = p ++ Lib.decDigits n.toNat) := nmF_yes h1 h2
    have hl := dec_len (n := n.toNat) (by omega)
    obtain ⟨D, HD⟩ := hid_ex (Lib.decDigits n.toNat)
    have HC : Hid (Calls Tryz.prog 74 #[.int .i64 n] w fun e w' => e = .returned (.string ⟨D.toArray⟩) ∧ Below w.heap.size w w') := by rw [HD.out]; exact itoa_nat n h1 h2 w HT.out
    rw [← HD.out] at HF hl
    clear HD
    have HQ : Hid (isNo n = true) := hq
    clear hq
    go_enter Tryz.func38, Tryz.ntmps38
    go_wp2_with fail
    refine (isNumber_any n w).mono ?_
    rintro e w1 ⟨rfl, hw⟩
    subst w1
    rw [HQ.out]
    go_wp2_with fail
    refine HC.out.mono ?_
    rintro e w2 ⟨rfl, hb⟩
    go_wp2_with fail
    go_ret
    exact ⟨by rw [HF.out]; rfl, hb⟩
theorem Tb.below {w w' : World} (h : Tb w) (hb : Below w.heap.size w w') : Tb w' := by
  unfold Tb Lib.TabIs World.var? at *
  cases hg : Tryz.prog.globalNamed "internal/strconv.uint64pow10" with
  | none => rw [hg] at h; simp at h
  | some g =>
    rw [hg] at h
    simp only [Option.bind_some] at h ⊢
    cases hh : w.heap[g]? with
    | none => rw [hh] at h; simp at h
    | some o => rw [hb.block g (Array.getElem?_eq_some_iff.1 hh).1]; exact h
end Go.Proofs.YtilbffgpniomcaaGreatDoor

/- slices.Sorted(maps.Keys(m)) at this program (written by mksfl.py, for one seat), and List. -/
namespace Go.Proofs.YtilbffgpniomcaaGreatDoor
open Go.Shelf Go.Sort Go.RowKit Go.Maps

def sfKeys_ren : Go.Shelf.Ren := ⟨fun | 7 => 52 | 10 => 82 | n => n, fun | 23 => 73 | 26 => 9 | 3 => 78 | 28 => 110 | 0 => 0 | 27 => 109 | 33 => 77 | 4 => 4 | n => n, fun | n => n⟩
theorem sfKeys : Go.Proofs.SlLaysZ.n7 Tryz.prog sfKeys_ren := {
  mixed := by kernel_rfl
  f7 := ⟨Tryz.f52.name, by decide, Tryz.func52.trans (congrArg some (by kernel_rfl))⟩
  f10 := ⟨Tryz.f82.name, by decide, Tryz.func82.trans (congrArg some (by kernel_rfl))⟩
  t0 := Tryz.underlying0
  a0 := Tryz.isAgg0
  z0 := Tryz.sizeOf0
  v0 := Tryz.zeroValue0
  t4 := Tryz.underlying4
  a4 := Tryz.isAgg4
  z4 := Tryz.sizeOf4
  v4 := Tryz.zeroValue4
  t23 := Tryz.underlying73
  a23 := Tryz.isAgg73
  z23 := Tryz.sizeOf73
  v23 := Tryz.zeroValue73
  t26 := Tryz.underlying9
  a26 := Tryz.isAgg9
  z26 := Tryz.sizeOf9
  v26 := Tryz.zeroValue9
  t27 := Tryz.underlying109
  a27 := Tryz.isAgg109
  z27 := Tryz.sizeOf109
  v27 := Tryz.zeroValue109
  t28 := Tryz.underlying110
  a28 := Tryz.isAgg110
  z28 := Tryz.sizeOf110
  v28 := Tryz.zeroValue110
  t33 := Tryz.underlying77
  a33 := Tryz.isAgg77
  z33 := Tryz.sizeOf77
  v33 := Tryz.zeroValue77 }
def sfSorted_ren : Go.Shelf.Ren := ⟨fun | 6 => 51 | 8 => 80 | 9 => 81 | 11 => 101 | 13 => 89 | 12 => 102 | 23 => 114 | 24 => 115 | 14 => 120 | 15 => 121 | 16 => 122 | 17 => 123 | 18 => 124 | 19 => 125 | 20 => 126 | 21 => 127 | 22 => 128 | 25 => 138 | 26 => 130 | 27 => 131 | 28 => 139 | 29 => 140 | 30 => 141 | 31 => 147 | n => n, fun | 26 => 9 | 28 => 110 | 24 => 48 | 0 => 0 | 3 => 3 | 37 => 145 | 48 => 116 | 50 => 98 | 4 => 4 | 40 => 161 | 39 => 160 | 45 => 89 | 5 => 5 | 9 => 9 | 51 => 176 | 55 => 180 | 57 => 188 | 58 => 189 | 33 => 77 | n => n, fun | n => n⟩
theorem sfSorted : Go.Proofs.SlLaysZ.n6 Tryz.prog sfSorted_ren := {
  mixed := by kernel_rfl
  f6 := ⟨Tryz.f51.name, by decide, Tryz.func51.trans (congrArg some (by kernel_rfl))⟩
  f8 := ⟨Tryz.f80.name, by decide, Tryz.func80.trans (congrArg some (by kernel_rfl))⟩
  f11 := ⟨Tryz.f101.name, by decide, Tryz.func101.trans (congrArg some (by kernel_rfl))⟩
  t0 := Tryz.underlying0
  a0 := Tryz.isAgg0
  z0 := Tryz.sizeOf0
  v0 := Tryz.zeroValue0
  t24 := Tryz.underlying48
  a24 := Tryz.isAgg48
  z24 := Tryz.sizeOf48
  v24 := Tryz.zeroValue48
  t26 := Tryz.underlying9
  a26 := Tryz.isAgg9
  z26 := Tryz.sizeOf9
  v26 := Tryz.zeroValue9
  t28 := Tryz.underlying110
  a28 := Tryz.isAgg110
  z28 := Tryz.sizeOf110
  v28 := Tryz.zeroValue110
  i26 := by kernel_rfl }
def sfSort_ren : Go.Shelf.Ren := ⟨fun | 6 => 81 | 8 => 89 | 9 => 102 | 19 => 114 | 20 => 115 | 21 => 120 | 22 => 121 | 23 => 122 | 24 => 123 | 25 => 124 | 26 => 125 | 27 => 126 | 28 => 127 | 29 => 128 | 36 => 138 | 31 => 130 | 32 => 131 | 37 => 139 | 38 => 140 | 39 => 141 | 41 => 147 | n => n, fun | 27 => 48 | 29 => 9 | 3 => 3 | 32 => 145 | 26 => 48 | 0 => 0 | 44 => 116 | 46 => 98 | 4 => 4 | 36 => 161 | 35 => 160 | 41 => 89 | 5 => 5 | 9 => 9 | 53 => 176 | 57 => 180 | 63 => 188 | 64 => 189 | n => n, fun | n => n⟩
theorem sfSort : Go.Proofs.SlLaysM.n6 Tryz.prog sfSort_ren := {
  mixed := by kernel_rfl
  f6 := ⟨Tryz.f81.name, by decide, Tryz.func81.trans (congrArg some (by kernel_rfl))⟩
  f8 := Tryz.func89.trans (congrArg some (by kernel_rfl))
  f9 := ⟨Tryz.f102.name, by decide, Tryz.func102.trans (congrArg some (by kernel_rfl))⟩
  f19 := Tryz.func114.trans (congrArg some (by kernel_rfl))
  f20 := Tryz.func115.trans (congrArg some (by kernel_rfl))
  f21 := ⟨Tryz.f120.name, by decide, Tryz.func120.trans (congrArg some (by kernel_rfl))⟩
  f22 := ⟨Tryz.f121.name, by decide, Tryz.func121.trans (congrArg some (by kernel_rfl))⟩
  f23 := ⟨Tryz.f122.name, by decide, Tryz.func122.trans (congrArg some (by kernel_rfl))⟩
  f24 := ⟨Tryz.f123.name, by decide, Tryz.func123.trans (congrArg some (by kernel_rfl))⟩
  f25 := ⟨Tryz.f124.name, by decide, Tryz.func124.trans (congrArg some (by kernel_rfl))⟩
  f26 := ⟨Tryz.f125.name, by decide, Tryz.func125.trans (congrArg some (by kernel_rfl))⟩
  f27 := ⟨Tryz.f126.name, by decide, Tryz.func126.trans (congrArg some (by kernel_rfl))⟩
  f28 := ⟨Tryz.f127.name, by decide, Tryz.func127.trans (congrArg some (by kernel_rfl))⟩
  f29 := ⟨Tryz.f128.name, by decide, Tryz.func128.trans (congrArg some (by kernel_rfl))⟩
  f31 := Tryz.func130.trans (congrArg some (by kernel_rfl))
  f32 := Tryz.func131.trans (congrArg some (by kernel_rfl))
  f36 := ⟨Tryz.f138.name, by decide, Tryz.func138.trans (congrArg some (by kernel_rfl))⟩
  f37 := ⟨Tryz.f139.name, by decide, Tryz.func139.trans (congrArg some (by kernel_rfl))⟩
  f38 := ⟨Tryz.f140.name, by decide, Tryz.func140.trans (congrArg some (by kernel_rfl))⟩
  f39 := ⟨Tryz.f141.name, by decide, Tryz.func141.trans (congrArg some (by kernel_rfl))⟩
  f41 := ⟨Tryz.f147.name, by decide, Tryz.func147.trans (congrArg some (by kernel_rfl))⟩
  t0 := Tryz.underlying0
  a0 := Tryz.isAgg0
  z0 := Tryz.sizeOf0
  v0 := Tryz.zeroValue0
  t3 := Tryz.underlying3
  a3 := Tryz.isAgg3
  z3 := Tryz.sizeOf3
  v3 := Tryz.zeroValue3
  t4 := Tryz.underlying4
  a4 := Tryz.isAgg4
  z4 := Tryz.sizeOf4
  v4 := Tryz.zeroValue4
  t5 := Tryz.underlying5
  a5 := Tryz.isAgg5
  z5 := Tryz.sizeOf5
  v5 := Tryz.zeroValue5
  t9 := Tryz.underlying9
  a9 := Tryz.isAgg9
  z9 := Tryz.sizeOf9
  v9 := Tryz.zeroValue9
  t26 := Tryz.underlying48
  a26 := Tryz.isAgg48
  z26 := Tryz.sizeOf48
  v26 := Tryz.zeroValue48
  t27 := Tryz.underlying48
  a27 := Tryz.isAgg48
  z27 := Tryz.sizeOf48
  v27 := Tryz.zeroValue48
  t29 := Tryz.underlying9
  a29 := Tryz.isAgg9
  z29 := Tryz.sizeOf9
  v29 := Tryz.zeroValue9
  t32 := Tryz.underlying145
  a32 := Tryz.isAgg145
  z32 := Tryz.sizeOf145
  v32 := Tryz.zeroValue145
  t35 := Tryz.underlying160
  a35 := Tryz.isAgg160
  z35 := Tryz.sizeOf160
  v35 := Tryz.zeroValue160
  t36 := Tryz.underlying161
  a36 := Tryz.isAgg161
  z36 := Tryz.sizeOf161
  v36 := Tryz.zeroValue161
  t41 := Tryz.underlying89
  a41 := Tryz.isAgg89
  z41 := Tryz.sizeOf89
  v41 := Tryz.zeroValue89
  t44 := Tryz.underlying116
  a44 := Tryz.isAgg116
  z44 := Tryz.sizeOf116
  v44 := Tryz.zeroValue116
  t46 := Tryz.underlying98
  a46 := Tryz.isAgg98
  z46 := Tryz.sizeOf98
  v46 := Tryz.zeroValue98
  t53 := Tryz.underlying176
  a53 := Tryz.isAgg176
  z53 := Tryz.sizeOf176
  v53 := Tryz.zeroValue176
  t57 := Tryz.underlying180
  a57 := Tryz.isAgg180
  z57 := Tryz.sizeOf180
  v57 := Tryz.zeroValue180
  t63 := Tryz.underlying188
  a63 := Tryz.isAgg188
  z63 := Tryz.sizeOf188
  v63 := Tryz.zeroValue188
  t64 := Tryz.underlying189
  a64 := Tryz.isAgg189
  z64 := Tryz.sizeOf189
  v64 := Tryz.zeroValue189 }
theorem sfSorts (m : Nat) : AnyZ.SortsIn Tryz.prog sfSorted_ren Fence.wide m :=
  ⟨fun blk off cap ss W hH hblk hsz => callsIn_wide.2 (AnyM.slices_Sort_string sfSort blk off cap ss W hH hblk hsz),
   fun p cap W => callsIn_wide.2 (AnyM.slices_Sort_string_none sfSort p cap W)⟩
theorem sf_keys (mb : Option Nat) (W : World) : CallsIn Fence.wide 5 Tryz.prog 52 #[.map mb] W fun e w' => e = .returned (.func (.func 82) #[] #[.pointer (some ⟨W.heap.size, 0, none⟩)]) ∧ w' = W.alloc (.cells #[.map mb] 73) :=
  AnyZ.keys_in sfKeys Fence.wide 5 trivial rfl mb W
set_option maxHeartbeats 1000000 in
theorem sf_sorted {H : Type} (b nn : Nat) (D0 : DataW H) (R : Value → Option (DataW H × List MemPlace)) (w : World) (hown : w.ownsMap Tryz.prog 9 R b nn D0) (hmax : Maps.size D0 ≤ maxLen) (hbytes : Maps.size D0 * 16 ≤ 140737488355328) :
    CallsIn Fence.wide 5 Tryz.prog 51 #[.func (.func 82) #[] #[.pointer (some ⟨w.heap.size, 0, none⟩)]] (w.alloc (.cells #[.map (some b)] 73)) fun e w' => ∃ (v : Value) (ss : List (List UInt8)), e = .returned v ∧ ss.Perm (strKeys D0) ∧
      w'.ownsRow (w.alloc (.cells #[.map (some b)] 73)).heap.size 9 1 v ss.length ((ss.mergeSort (fun x y => decide (x ≤ y))).map encStr) ∧ (v = .slice none 0 0 ↔ ss = []) ∧ Below (w.alloc (.cells #[.map (some b)] 73)).heap.size (w.alloc (.cells #[.map (some b)] 73)) w' := by
  have hbl := hown.lt
  have hseq : SeqGives Fence.wide 2 Tryz.prog 82 #[.pointer (some ⟨w.heap.size, 0, none⟩)] encStr (fun ss => ss.Perm (strKeys D0)) (Maps.size D0) (w.alloc (.cells #[.map (some b)] 73)) :=
    AnyZ.keys_gives (ρ := sfKeys_ren) { sfKeys with } Fence.wide _ trivial rfl (by omega) w.heap.size b nn D0 _ (by simp) (by simp) (by
      obtain ⟨es, clock, hb, Ft, hs, hD⟩ := hown
      exact ⟨es, clock, (Below.heap_alloc _ _ b hbl).trans hb, Ft, hs, hD⟩)
  exact AnyZ.sorted_in sfSorted Fence.wide 5 trivial trivial trivial trivial rfl (by omega) (sfSorts _) (enters_of Tryz.func81 (by kernel_rfl) rfl) 82 #[.pointer (some ⟨w.heap.size, 0, none⟩)] trivial (enters_of Tryz.func82 (by kernel_rfl) rfl) _ _ hmax hbytes _ hseq
set_option maxHeartbeats 1000000 in
theorem list_map {H : Type} (g b nn : Nat) (r : Int) (D0 : DataW H) (R : Value → Option (DataW H × List MemPlace)) (w : World) (hown : w.ownsMap Tryz.prog 9 R b nn D0) (hmax : Maps.size D0 ≤ maxLen) (hbytes : Maps.size D0 * 16 ≤ 140737488355328)
    (c0 : w.cell? ⟨g, 0, none⟩ = some (.int .i64 r)) (h1 : 1 ≤ r) (c1 : w.cell? ⟨g, 1, none⟩ = some (.map (some b))) :
    Calls Tryz.prog 19 #[.pointer (some ⟨g, 0, none⟩)] w fun e w' => ∃ (v : Value) (ss : List (List UInt8)), e = .returned v ∧ ss.Perm (strKeys D0) ∧
      w'.ownsRow w.heap.size 9 1 v ss.length ((ss.mergeSort (fun x y => decide (x ≤ y))).map encStr) ∧ Below w.heap.size w w' := by
  refine (callsIn_wide (n := 6)).1 ?_
  have hfK : Fence.wide.fn 52 := trivial
  have hfS : Fence.wide.fn 51 := trivial
  have hfM : Fence.wide.fn 30 := trivial
  have hmd : CallsIn Fence.wide 5 Tryz.prog 30 #[.pointer (some ⟨g, 0, none⟩)] w fun e w' => e = .returned (.bool true) ∧ w' = w := callsIn_wide.2 (made_cell w c0 h1)
  refine callsIn_of_wp Tryz.func19 rfl trivial ?_ rfl
  simp only [Tryz.ntmps19, List.size_toArray, List.length_cons, List.length_nil, Nat.reduceAdd, Nat.reduceSub, Array.replicate_succ, Array.replicate_zero, List.push_toArray, List.append_toArray, List.nil_append, List.cons_append]
  gi_wp2_with (first
    | (gi_at_call 30; refine hmd.mono ?_; rintro e w' ⟨rfl, hw'⟩; subst w')
    | (gi_at_call 52; refine (sf_keys _ _).mono ?_; rintro e w' ⟨rfl, hw'⟩; subst w')
    | (gi_at_call 51; refine (sf_sorted b nn D0 R w hown hmax hbytes).mono ?_; rintro e w' ⟨v, ss, rfl, hS, hrow, hnil, hb⟩))
  go_ret
  exact ⟨v, ss, rfl, hS, ownsRow_base_a hrow (by simp), ((Below.refl _ w).alloc (Nat.le_refl _) _).trans (hb.mono (by simp))⟩
end Go.Proofs.YtilbffgpniomcaaGreatDoor

/- A file system: List; one map into another. -/
namespace Go.Proofs.YtilbffgpniomcaaGreatDoor
open Go.RowKit Go.Maps Go.Sort

theorem bb_le : ∀ (a b : List UInt8), bytesBefore a b = true → a ≤ b
  | [], b, _ => by simp
  | _ :: _, [], h => by simp [bytesBefore] at h
  | x :: a, y :: b, h => by
    simp only [bytesBefore, Bool.or_eq_true, decide_eq_true_eq, Bool.and_eq_true, beq_iff_eq] at h
    rcases h with h | ⟨rfl, h⟩
    · exact List.le_of_lt (List.cons_lt_cons_iff.2 (.inl h))
    · exact List.cons_le_cons_iff.2 (.inr ⟨rfl, bb_le a b h⟩)
def sv (s : List UInt8) : Value := .string ⟨s.toArray⟩
theorem strKeys_sf (bl : Nat → Nat) (l : List (List UInt8 × Nat)) : strKeys (sfD bl l) = l.map (·.1) := by
  show (l.map (sfE bl)).map (fun p => strOf p.1) = _
  rw [List.map_map]
  rfl
theorem list_any {w : World} {O : Nat → Prop} {g m1 m2 : Nat} {pv : Value} {bl : Nat → Nat} {vs : Nat → Value} {s : SfS} (h : FsAt w O g m1 m2 pv bl vs s) (hw : SfWf s) :
    Calls Tryz.prog 19 #[.pointer (some ⟨g, 0, none⟩)] w fun e w' => ∃ v, e = .returned v ∧ w'.ownsRow w.heap.size 9 1 v s.dir.length (s.dir.map fun p => sv p.1) ∧ Below w.heap.size w w' := by
  have hdl := hw.dl
  have hsz := sfD_size bl s.dir
  refine (list_map g m1 s.dir.length s.room (sfD bl s.dir) ptrE w h.h1 (by rw [hsz]; simp only [maxLen]; omega) (by rw [hsz]; omega) h.c0 hw.r1 h.c1).mono ?_
  rintro e w' ⟨v, ss, rfl, hS, hrow, hb⟩
  rw [strKeys_sf] at hS
  have hl : ss.length = s.dir.length := by rw [hS.length_eq, List.length_map]
  have hms : ss.mergeSort (fun x y => decide (x ≤ y)) = s.dir.map (·.1) := by
    have := mergeSort_of_perm hS
    unfold leB at this
    rw [this]
    refine List.mergeSort_of_pairwise ?_
    rw [List.pairwise_map]
    exact h.h1.apart.imp fun {a b} q => by simpa using bb_le _ _ q
  rw [hms, List.map_map, hl] at hrow
  exact ⟨v, rfl, hrow, hb⟩
theorem copyM_any {w : World} {m1 m2 : Nat} {bl : Nat → Nat} {l : List (List UInt8 × Nat)} (h1 : SfMap w m1 bl []) (h2 : SfMap w m2 bl l) (hne : m1 ≠ m2) (hl : l.length < maxLen) :
    Calls Tryz.prog 60 #[.map (some m1), .map (some m2)] w fun e w' => e = .returned (.tuple #[]) ∧ SfMap w' m1 bl l ∧ Onl (fun k => k = m1) w w' := by
  have hlt := World.ownsMap.lt h1
  have HC : Hid (Canon (sfD bl l)) := World.ownsMap.canon h2 keyedS
  have H1 : Hid (SfMap w m1 bl []) := h1
  clear h1
  go_enter Tryz.func60, Tryz.ntmps60
  go_wp2_with (at_range; refine wpList_range_own _ rfl _ 73 rfl 9 78 keyedS Tryz.underlying73 ptrE m2 l.length (sfD bl l) rfl h2 ?_; intro w0 hrg0 hg0 hs0)
  go_frame
  have HR0 : Hid (w0.ranges Tryz.prog 9 ptrE m2 w.heap.size l.length (sfD bl l) (Maps.has (sfD bl l)) (Maps.size (sfD bl l))) := hrg0
  have HO0 : Hid (Onl (fun k => k = m1) w w0) := Onl.grown hg0 (fun k hk => by cases hk)
  have H10 : Hid (SfMap w0 m1 bl []) := H1.out.keep (hg0.block m1 hlt (by simp))
  clear hrg0 hg0 hs0 h2 H1
  go_loopw [4] (fun _ wr => ∃ left cnt l1, Hid (wr.ranges Tryz.prog 9 ptrE m2 w.heap.size l.length (sfD bl l) left cnt) ∧ Hid (SfMap wr m1 bl l1) ∧ Hid (Agree (sfD bl l1) (sfD bl l) left) ∧ Hid (l1.length + cnt ≤ l.length) ∧ Hid (Onl (fun k => k = m1) w wr)) (fun _ wr => wr.rangeLeft m2 w.heap.size)
  case atStart => exact ⟨_, _, [], HR0, H10, agree_start _, by show [].length + Maps.size (sfD bl l) ≤ _; rw [sfD_size]; simp, HO0⟩
  case round =>
    obtain ⟨left, cnt, l1, HR, H1, HA, HN, HO⟩ := hrel
    go_wp2_with (at_next; refine wpList_next_sf rfl _ rfl m2 w.heap.size l.length bl l left cnt rfl HR.out ?_ ?_)
    · intro hl0
      have HE : Hid (sfD bl l1 = sfD bl l) := agree_end HA.out hl0 (World.ownsMap.canon H1.out keyedS) HC.out
      clear hl0 HR HA
      go_wp2_with fail
      refine bodyPost_end (results_none rfl _ _ _) rfl ?_
      exact ⟨rfl, .of H1.out HE.out, HO.out⟩
    · intro nm i w1 cnt1 hnl hlook hleft hrg1 hlt1 hg1 hs1 hen
      have hm1 : SfMap w1 m1 bl l1 := H1.out.keep (hg1.block m1 (by have := HO.out.size; omega) (by simp; omega))
      have hn1 : l1.length < maxLen := by have := HN.out; omega
      have k2 := keyS nm hnl
      have HR1 : Hid (w1.ranges Tryz.prog 9 ptrE m2 w.heap.size l.length (sfD bl l) (fun z => left z && !z.sameKey (.string nm)) cnt1) := hrg1
      have HO1 : Hid (Onl (fun k => k = m1) w w1) := ⟨hg1.os.trans HO.out.os, hg1.tape.trans HO.out.tape, hg1.output.trans HO.out.output, Nat.le_trans HO.out.size hg1.size, fun k hk ho => (hg1.block k (Nat.lt_of_lt_of_le hk HO.out.size) (by simp; omega)).trans (HO.out.block k hk ho)⟩
      have HLK : Hid (sfLook nm l = some i) := hlook
      have HLT : Hid (cnt1 < cnt) := hlt1
      clear hrg1 hlt1 hg1 hs1 hlook hleft hnl
      go_wp2_with (at_mapUpdate; refine wpList_mapUpdate_in _ rfl _ _ _ 73 rfl 9 78 keyedS Tryz.underlying73 ptrE m1 l1.length _ rfl hm1 hn1 _ _ _ rfl rfl k2 (.lit (.int .i64 (bl i : Int))) [] rfl ?_; intro w2 hown2 hturn2)
      go_frame
      have H2 : Hid (SfMap w2 m1 bl (sfPut (nm, i) l1)) := .of hown2 (sfD_put bl (nm, i) l1)
      have HR2 : Hid (w2.ranges Tryz.prog 9 ptrE m2 w.heap.size l.length (sfD bl l) (fun z => left z && !z.sameKey (.string nm)) cnt1) := HR1.out.kept hturn2.grown (by simp; omega) (by simp; omega)
      have HO2 : Hid (Onl (fun k => k = m1) w w2) := HO1.out.then (turned_only hturn2)
      have HA2 : Hid (Agree (sfD bl (sfPut (nm, i) l1)) (sfD bl l) (fun z => left z && !z.sameKey (.string nm))) := by
        have := agree_step HA.out (World.ownsMap.isMap H1.out) (kl := .string nm) (d := .lit (.int .i64 (bl i : Int))) trivial (fun zd => by rw [sfD_at, HLK.out])
        have e := sfD_put bl (nm, i) l1
        rw [← e]
        exact this
      have HN2 : Hid ((sfPut (nm, i) l1).length + cnt1 ≤ l.length) := by
        have h1 := sfPut_le (nm, i) l1
        have h2 := HN.out
        have h3 := HLT.out
        show _ ≤ _
        omega
      clear hown2 hturn2
      go_roundw
      case rel => exact ⟨_, _, _, HR2, H2, HA2, HN2, HO2⟩
      case measure => rw [HR2.out.left_eq, HR.out.left_eq]; exact HLT.out
end Go.Proofs.YtilbffgpniomcaaGreatDoor
