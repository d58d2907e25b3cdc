/- WN0 WIt SF3 SF4 RH, joined. -/
import Derived.Test.YtegcomopcoapjaaGreatDoorTG1
import Derived.Test.YtegcomopcoapjaaGreatDoorTG6
import Derived.Test.YtegcomopcoapjaaGreatDoorTG7
import Derived.Lib.AtoiAll
import Derived.Lib.AtoiAllCases
import Derived.Lib.ItoaNum
import Derived.Lib.ItoaMem
import Derived.Shelf.LaysM
import Derived.Shelf.Strconv.Itoa3
import Derived.Test.YtegcomopcoapjaaGreatDoorRows
/- Numbers of files, in digits: no program in sight. -/
namespace Go.Proofs.YtegcomopcoapjaaGreatDoor
open Go.Lib

theorem pu_app : ∀ (l r : List UInt8) (a u : Nat), parseUint10 a l = .ok u → parseUint10 a (l ++ r) = parseUint10 u r
  | [], r, a, u, h => by simp only [parseUint10] at h; injection h with h; rw [h]; rfl
  | c :: l, r, a, u, h => by
    rw [List.cons_append, parseUint10]
    rw [parseUint10] at h
    by_cases h1 : 48 ≤ c.toNat ∧ c.toNat ≤ 57
    · rw [if_pos h1] at h ⊢
      by_cases h2 : 1844674407370955162 ≤ a
      · rw [if_pos h2] at h; cases h
      · rw [if_neg h2] at h ⊢
        by_cases h3 : 18446744073709551616 ≤ a * 10 + (c.toNat - 48)
        · rw [if_pos h3] at h; cases h
        · rw [if_neg h3] at h ⊢
          exact pu_app l r _ u h
    · rw [if_neg h1] at h; cases h
theorem pu_one {d a : Nat} (hd : d < 10) (ha : a < 1000000000000000) : parseUint10 a [UInt8.ofNat (48 + d)] = .ok (a * 10 + d) := by
  have e : (UInt8.ofNat (48 + d)).toNat = 48 + d := by simp; omega
  unfold parseUint10
  rw [e, if_pos (by omega), if_neg (by omega), if_neg (by omega)]
  simp only [parseUint10]
  congr 1
  omega
theorem pu_dec : ∀ (n : Nat), n < 1000000000000000 → parseUint10 0 (decDigits n) = .ok n := by
  intro n
  induction n using Nat.strongRecOn with
  | _ n ih =>
    intro h
    by_cases h1 : n < 10
    · rw [decDigits_one h1, pu_one h1 (by omega)]; simp
    · rw [decDigits, dif_neg h1, pu_app _ _ _ _ (ih (n / 10) (by omega) (by omega)), pu_one (by omega) (by omega)]
      congr 1; omega
theorem dec_digit (n : Nat) : ∀ c ∈ decDigits n, 48 ≤ c.toNat ∧ c.toNat ≤ 57 := by
  induction n using Nat.strongRecOn with
  | _ n ih =>
    intro c hc
    by_cases h1 : n < 10
    · rw [decDigits_one h1] at hc
      simp at hc
      rw [hc]; simp; omega
    · rw [decDigits, dif_neg h1] at hc
      rcases List.mem_append.1 hc with hc | hc
      · exact ih (n / 10) (by omega) c hc
      · simp at hc; rw [hc]; simp; omega
theorem dec_pos (n : Nat) : 0 < (decDigits n).length := by rw [decDigits_length]; exact nDigits_pos n
theorem atoi_dec {n : Nat} (h : n < 1000000000000000) : atoiAll (decDigits n) = .ok (n : Int) := by
  have hp := pu_dec n h
  have h0 := dec_pos n
  have hd := dec_digit n
  cases e : decDigits n with
  | nil => rw [e] at h0; simp at h0
  | cons c r =>
    rw [e] at hp hd
    have hc := hd c (List.mem_cons_self ..)
    rw [atoiAll_plain c r (by omega) (by omega)]
    unfold parseMag
    rw [if_neg (by simp), hp]
    unfold signless
    simp only
    rw [if_neg (by omega)]
/-- A file's name. -/
def nmF (p : List UInt8) (n : Int) : List UInt8 := if 1 ≤ n ∧ n ≤ 1099511627776 then p ++ itoa n else []
theorem nmF_yes {p : List UInt8} {n : Int} (h1 : 1 ≤ n) (h2 : n ≤ 1099511627776) : nmF p n = p ++ decDigits n.toNat := by
  unfold nmF itoa; rw [if_pos ⟨h1, h2⟩, if_neg (by omega)]
theorem nmF_no {p : List UInt8} {n : Int} (h : ¬ (1 ≤ n ∧ n ≤ 1099511627776)) : nmF p n = [] := by unfold nmF; rw [if_neg h]
theorem dec_inj {m n : Nat} (hm : m < 1000000000000000) (hn : n < 1000000000000000) (h : decDigits m = decDigits n) : m = n := by
  have a := pu_dec m hm
  rw [h, pu_dec n hn] at a
  injection a with a
  exact a.symm
theorem nmF_inj {p : List UInt8} {m n : Int} (h1 : 1 ≤ m) (h2 : m ≤ 1099511627776) (h3 : 1 ≤ n) (h4 : n ≤ 1099511627776) (h : nmF p m = nmF p n) : m = n := by
  rw [nmF_yes h1 h2, nmF_yes h3 h4] at h
  have := dec_inj (by omega) (by omega) (List.append_cancel_left h)
  omega
theorem nD_le (k n : Nat) (h : n < 10 ^ (k + 1)) : nDigits n ≤ k + 1 := by
  induction k generalizing n with
  | zero => rw [nDigits_small (by simpa using h)]; omega
  | succ k ih =>
    by_cases h1 : n < 10
    · rw [nDigits_small h1]; omega
    · rw [nDigits_big h1]
      have := ih (n / 10) (by rw [Nat.pow_succ] at h; omega)
      omega
theorem dec_len {n : Nat} (h : n ≤ 1099511627776) : (decDigits n).length ≤ 13 := by
  rw [decDigits_length]; exact nD_le 12 n (by omega)
end Go.Proofs.YtegcomopcoapjaaGreatDoor

/- strconv at this program (written by mkwit.py, for one seat). -/
namespace Go.Proofs.YtegcomopcoapjaaGreatDoor
open Go.Shelf Go.Sort Go.RowKit Go.Lib

def witM_ren : Go.Shelf.Ren := ⟨fun | 171 => 37 | 243 => 56 | 246 => 71 | 283 => 89 | 284 => 90 | 285 => 91 | 286 => 92 | 129 => 88 | 317 => 101 | 318 => 102 | 319 => 103 | 320 => 104 | 337 => 107 | 338 => 108 | n => n, fun | 3 => 3 | 9 => 9 | 2 => 2 | 4 => 4 | 171 => 143 | 0 => 0 | 53 => 91 | 37 => 61 | 5 => 5 | 173 => 145 | 212 => 160 | 51 => 94 | 20 => 20 | 213 => 161 | 46 => 125 | 232 => 166 | 233 => 167 | n => n, fun | 17 => 0 | 18 => 1 | 19 => 2 | n => n⟩
theorem witM : Go.Proofs.LaysM.n171 Tryz.prog witM_ren := {
  mixed := by kernel_rfl
  f129 := Tryz.func88.trans (congrArg some (by kernel_rfl))
  f171 := Tryz.func37.trans (congrArg some (by kernel_rfl))
  f243 := Tryz.func56.trans (congrArg some (by kernel_rfl))
  f246 := Tryz.func71.trans (congrArg some (by kernel_rfl))
  f283 := Tryz.func89.trans (congrArg some (by kernel_rfl))
  f284 := Tryz.func90.trans (congrArg some (by kernel_rfl))
  f285 := Tryz.func91.trans (congrArg some (by kernel_rfl))
  f286 := Tryz.func92.trans (congrArg some (by kernel_rfl))
  f317 := Tryz.func101.trans (congrArg some (by kernel_rfl))
  f318 := Tryz.func102.trans (congrArg some (by kernel_rfl))
  f319 := Tryz.func103.trans (congrArg some (by kernel_rfl))
  f320 := Tryz.func104.trans (congrArg some (by kernel_rfl))
  f337 := Tryz.func107.trans (congrArg some (by kernel_rfl))
  f338 := Tryz.func108.trans (congrArg some (by kernel_rfl))
  t0 := Tryz.underlying0
  a0 := Tryz.isAgg0
  z0 := Tryz.sizeOf0
  v0 := Tryz.zeroValue0
  t2 := Tryz.underlying2
  a2 := Tryz.isAgg2
  z2 := Tryz.sizeOf2
  v2 := Tryz.zeroValue2
  t3 := Tryz.underlying3
  a3 := Tryz.isAgg3
  z3 := Tryz.sizeOf3
  v3 := Tryz.zeroValue3
  t4 := Tryz.underlying4
  a4 := Tryz.isAgg4
  z4 := Tryz.sizeOf4
  v4 := Tryz.zeroValue4
  t5 := Tryz.underlying5
  a5 := Tryz.isAgg5
  z5 := Tryz.sizeOf5
  v5 := Tryz.zeroValue5
  t9 := Tryz.underlying9
  a9 := Tryz.isAgg9
  z9 := Tryz.sizeOf9
  v9 := Tryz.zeroValue9
  t20 := Tryz.underlying20
  a20 := Tryz.isAgg20
  z20 := Tryz.sizeOf20
  v20 := Tryz.zeroValue20
  t37 := Tryz.underlying61
  a37 := Tryz.isAgg61
  z37 := Tryz.sizeOf61
  v37 := Tryz.zeroValue61
  t46 := Tryz.underlying125
  a46 := Tryz.isAgg125
  z46 := Tryz.sizeOf125
  v46 := Tryz.zeroValue125
  t51 := Tryz.underlying94
  a51 := Tryz.isAgg94
  z51 := Tryz.sizeOf94
  v51 := Tryz.zeroValue94
  t53 := Tryz.underlying91
  a53 := Tryz.isAgg91
  z53 := Tryz.sizeOf91
  v53 := Tryz.zeroValue91
  t171 := Tryz.underlying143
  a171 := Tryz.isAgg143
  z171 := Tryz.sizeOf143
  v171 := Tryz.zeroValue143
  t173 := Tryz.underlying145
  a173 := Tryz.isAgg145
  z173 := Tryz.sizeOf145
  v173 := Tryz.zeroValue145
  t212 := Tryz.underlying160
  a212 := Tryz.isAgg160
  z212 := Tryz.sizeOf160
  v212 := Tryz.zeroValue160
  t213 := Tryz.underlying161
  a213 := Tryz.isAgg161
  z213 := Tryz.sizeOf161
  t232 := Tryz.underlying166
  a232 := Tryz.isAgg166
  z232 := Tryz.sizeOf166
  v232 := Tryz.zeroValue166
  t233 := Tryz.underlying167
  a233 := Tryz.isAgg167
  z233 := Tryz.sizeOf167
  v233 := Tryz.zeroValue167
  g17 := by kernel_rfl
  g18 := by kernel_rfl
  g19 := by kernel_rfl
  i0 := by kernel_rfl
  i2 := by kernel_rfl
  i3 := by kernel_rfl
  i4 := by kernel_rfl
  i5 := by kernel_rfl
  i9 := by kernel_rfl
  i20 := by kernel_rfl
  i37 := by kernel_rfl
  i46 := by kernel_rfl
  i51 := by kernel_rfl
  i53 := by kernel_rfl
  i171 := by kernel_rfl
  i173 := by kernel_rfl
  i212 := by kernel_rfl
  i232 := by kernel_rfl
  i233 := by kernel_rfl
  m17 := by kernel_rfl
  m18 := by kernel_rfl
  m19 := by kernel_rfl }
def witS_ren : Go.Shelf.Ren := ⟨fun | 171 => 37 | 243 => 56 | 246 => 71 | 283 => 89 | 284 => 90 | 285 => 91 | 286 => 92 | 129 => 88 | 317 => 101 | 318 => 102 | 319 => 103 | 320 => 104 | 337 => 107 | 338 => 108 | n => n, fun | 3 => 3 | 9 => 9 | 2 => 2 | 4 => 4 | 171 => 143 | 0 => 0 | 53 => 91 | 37 => 61 | 5 => 5 | 173 => 145 | 212 => 160 | 51 => 94 | 20 => 20 | 213 => 161 | 46 => 125 | 232 => 166 | 233 => 167 | n => n, fun | 17 => 0 | 18 => 1 | 19 => 2 | n => n⟩
theorem witS : Go.Proofs.Lays.n171 Tryz.prog witS_ren := {
  mixed := by kernel_rfl
  f129 := Tryz.func88.trans (congrArg some (by kernel_rfl))
  f171 := Tryz.func37.trans (congrArg some (by kernel_rfl))
  f243 := Tryz.func56.trans (congrArg some (by kernel_rfl))
  f246 := Tryz.func71.trans (congrArg some (by kernel_rfl))
  f283 := Tryz.func89.trans (congrArg some (by kernel_rfl))
  f284 := Tryz.func90.trans (congrArg some (by kernel_rfl))
  f285 := Tryz.func91.trans (congrArg some (by kernel_rfl))
  f286 := Tryz.func92.trans (congrArg some (by kernel_rfl))
  f317 := Tryz.func101.trans (congrArg some (by kernel_rfl))
  f318 := Tryz.func102.trans (congrArg some (by kernel_rfl))
  f319 := Tryz.func103.trans (congrArg some (by kernel_rfl))
  f320 := Tryz.func104.trans (congrArg some (by kernel_rfl))
  f337 := Tryz.func107.trans (congrArg some (by kernel_rfl))
  f338 := Tryz.func108.trans (congrArg some (by kernel_rfl))
  t0 := Tryz.underlying0
  a0 := Tryz.isAgg0
  z0 := Tryz.sizeOf0
  v0 := Tryz.zeroValue0
  t2 := Tryz.underlying2
  a2 := Tryz.isAgg2
  z2 := Tryz.sizeOf2
  v2 := Tryz.zeroValue2
  t3 := Tryz.underlying3
  a3 := Tryz.isAgg3
  z3 := Tryz.sizeOf3
  v3 := Tryz.zeroValue3
  t4 := Tryz.underlying4
  a4 := Tryz.isAgg4
  z4 := Tryz.sizeOf4
  v4 := Tryz.zeroValue4
  t5 := Tryz.underlying5
  a5 := Tryz.isAgg5
  z5 := Tryz.sizeOf5
  v5 := Tryz.zeroValue5
  t9 := Tryz.underlying9
  a9 := Tryz.isAgg9
  z9 := Tryz.sizeOf9
  v9 := Tryz.zeroValue9
  t20 := Tryz.underlying20
  a20 := Tryz.isAgg20
  z20 := Tryz.sizeOf20
  v20 := Tryz.zeroValue20
  t37 := Tryz.underlying61
  a37 := Tryz.isAgg61
  z37 := Tryz.sizeOf61
  v37 := Tryz.zeroValue61
  t46 := Tryz.underlying125
  a46 := Tryz.isAgg125
  z46 := Tryz.sizeOf125
  v46 := Tryz.zeroValue125
  t51 := Tryz.underlying94
  a51 := Tryz.isAgg94
  z51 := Tryz.sizeOf94
  v51 := Tryz.zeroValue94
  t53 := Tryz.underlying91
  a53 := Tryz.isAgg91
  z53 := Tryz.sizeOf91
  v53 := Tryz.zeroValue91
  t171 := Tryz.underlying143
  a171 := Tryz.isAgg143
  z171 := Tryz.sizeOf143
  v171 := Tryz.zeroValue143
  t173 := Tryz.underlying145
  a173 := Tryz.isAgg145
  z173 := Tryz.sizeOf145
  v173 := Tryz.zeroValue145
  t212 := Tryz.underlying160
  a212 := Tryz.isAgg160
  z212 := Tryz.sizeOf160
  v212 := Tryz.zeroValue160
  t213 := Tryz.underlying161
  a213 := Tryz.isAgg161
  z213 := Tryz.sizeOf161
  t232 := Tryz.underlying166
  a232 := Tryz.isAgg166
  z232 := Tryz.sizeOf166
  v232 := Tryz.zeroValue166
  t233 := Tryz.underlying167
  a233 := Tryz.isAgg167
  z233 := Tryz.sizeOf167
  v233 := Tryz.zeroValue167
  g17 := by kernel_rfl
  g18 := by kernel_rfl
  g19 := by kernel_rfl }
theorem itoa_any (n : Int) (h0 : -9223372036854775808 ≤ n) (h1 : n ≤ 9223372036854775807) (w : World) (htab : Lib.TabIs Tryz.prog w "internal/strconv.uint64pow10" .u64 Lib.pow10Tab) :
    Calls Tryz.prog 37 #[.int .i64 n] w fun e w' => e = .returned (.string ⟨(Lib.itoa n).toArray⟩) ∧ ∃ k os, w' = Go.Sort.grow (w.drewN k) os := Any.strconv_Itoa witM n h0 h1 w htab
theorem itoa_small (i : Nat) (hi : i < 100) (w : World) :
    Calls Tryz.prog 37 #[.int .i64 (i : Int)] w fun e w' => e = .returned (.string ⟨(Lib.decDigits i).toArray⟩) ∧ w' = w := Any.strconv_Itoa_small witS i hi w
end Go.Proofs.YtegcomopcoapjaaGreatDoor

/- A file system: an act is done; names; a file is cut. -/
namespace Go.Proofs.YtegcomopcoapjaaGreatDoor
open Go.RowKit Go.Maps

theorem sfDel_le (s : List UInt8) (l : List (List UInt8 × Nat)) : (sfDel s l).length ≤ l.length := List.length_filter_le _ _
theorem sfIns_len (x : List UInt8 × Nat) : ∀ l, (sfIns x l).length = l.length + 1
  | [] => rfl
  | y :: r => by
    unfold sfIns
    split
    · rfl
    · simp [sfIns_len x r]
theorem sfPut_le (x : List UInt8 × Nat) (l : List (List UInt8 × Nat)) : (sfPut x l).length ≤ l.length + 1 := by
  unfold sfPut; rw [sfIns_len]; have := sfDel_le x.1 l; omega
theorem sfDo_le (l : List (List UInt8 × Nat)) (a : SfA) : (sfDo l a).length ≤ l.length + 1 := by
  unfold sfDo
  split
  · have := sfDel_le a.gone l; omega
  · have := sfPut_le (a.name, ‹Nat›) (sfDel a.gone l); have := sfDel_le a.gone l; omega
theorem turned_only {w w' : World} {m : Nat} (h : w.mapTurned w' m) : Onl (fun k => k = m) w w' := by
  have g := h.grown
  exact ⟨g.os, g.tape, g.output, g.size, fun k hk ho => g.block k hk (fun e => ho (by simpa using e))⟩
theorem turned_cell {w w' : World} {m : Nat} (h : w.mapTurned w' m) {a : Addr} {v : Value} (hc : w.cell? a = some v) : w'.cell? a = some v := by
  obtain ⟨es, clock, es', clock', hb, rfl⟩ := h
  have hne : a.block ≠ m := by
    intro e
    simp [World.cell?, e, hb] at hc
  simp only [World.cell?, ChangeMaps.heap_setBlock_other hb _ hne] at hc ⊢
  exact hc
theorem do_any {w : World} {m : Nat} {bl : Nat → Nat} {l : List (List UInt8 × Nat)} (h : SfMap w m bl l) (hl : l.length < maxLen) (a : SfA) (h1 : a.gone.length ≤ maxLen) (h2 : a.name.length ≤ maxLen) :
    Calls Tryz.prog 48 #[.agg #[.string ⟨a.gone.toArray⟩, .string ⟨a.name.toArray⟩, sfPv bl a.file], .map (some m)] w fun e w' => e = .returned (.tuple #[]) ∧ SfMap w' m bl (sfDo l a) ∧ Onl (fun k => k = m) w w' := by
  obtain ⟨gone, name, file⟩ := a
  have k1 := keyS gone h1
  have k2 := keyS name h2
  have hm := SfMap.keep (w' := w.alloc (.cells #[.string ⟨gone.toArray⟩, .string ⟨name.toArray⟩, sfPv bl file] 88)) h (Below.heap_alloc _ _ _ (World.ownsMap.lt h))
  have hle := sfDel_le gone l
  cases file with
  | none =>
    simp only [sfPv] at hm ⊢
    go_enter Tryz.func48, Tryz.ntmps48
    go_wp2_with (at_delete; refine wpList_delete_own _ rfl _ _ 47 9 rfl 68 keyedS Tryz.underlying47 ptrE m l.length (sfD bl l) rfl hm _ _ rfl k1 ?_; intro w1 hown1 hturn1; have c2 := turned_cell hturn1 (a := ⟨w.heap.size, 2, none⟩) (v := .pointer none) (by simp))
    refine bodyPost_end (results_none rfl _ _ _) rfl ?_
    exact ⟨rfl, .of hown1 (sfD_del bl gone l), (Onl.alloc _).then (turned_only hturn1)⟩
  | some i =>
    simp only [sfPv] at hm ⊢
    go_enter Tryz.func48, Tryz.ntmps48
    go_wp2_with (first
      | (at_delete; refine wpList_delete_own _ rfl _ _ 47 9 rfl 68 keyedS Tryz.underlying47 ptrE m l.length (sfD bl l) rfl hm _ _ rfl k1 ?_; intro w1 hown1 hturn1; have c1 := turned_cell hturn1 (a := ⟨w.heap.size, 1, none⟩) (v := .string ⟨name.toArray⟩) (by simp); have c2 := turned_cell hturn1 (a := ⟨w.heap.size, 2, none⟩) (v := .pointer (some ⟨bl i, 0, none⟩)) (by simp))
      | (at_mapUpdate; refine wpList_mapUpdate_in _ rfl _ _ _ 47 rfl 9 68 keyedS Tryz.underlying47 ptrE m l.length _ rfl hown1 hl _ _ _ rfl rfl k2 (.lit (.int .i64 (bl i : Int))) [] rfl ?_; intro w2 hown2 hturn2))
    refine bodyPost_end (results_none rfl _ _ _) rfl ?_
    refine ⟨rfl, .of hown2 ?_, ((Onl.alloc _).then (turned_only hturn1)).then (turned_only hturn2)⟩
    rw [sfD_del]
    exact sfD_put bl (name, i) _
theorem sfOk_take {l : List UInt8} {k : Nat} (hk : k < l.length) (h : (l.take k).all sfOkC = true) (hc : sfOkC l[k] = true) : (l.take (k + 1)).all sfOkC = true := by
  rw [List.take_add_one, List.getElem?_eq_getElem hk, List.all_append, h]
  simpa using hc
theorem sfOk_no {l : List UInt8} {k : Nat} (hk : k < l.length) (hc : sfOkC l[k] = false) : l.all sfOkC = false := by
  cases h : l.all sfOkC with
  | false => rfl
  | true =>
    have := List.all_eq_true.1 h _ (List.getElem_mem hk)
    rw [hc] at this; cases this
theorem isName_b (s : ByteArray) (w : World) : Calls Tryz.prog 38 #[.string s] w fun e w' => e = .returned (.bool (sfName s.data.toList)) ∧ w' = w := by
  have hsl : s.data.toList.length = s.size := Array.length_toList
  by_cases h1 : s.size < 1
  · have e : sfName s.data.toList = false := by unfold sfName; rw [hsl, decide_eq_false (by omega : ¬ 1 ≤ s.size)]; rfl
    rw [e]
    clear hsl
    have h1' : ((s.size : Int) < 1) := by omega
    go_enter Tryz.func38, Tryz.ntmps38
    go_wp2
    go_ret
    exact ⟨rfl, rfl⟩
  · by_cases h2 : 32 < s.size
    · have e : sfName s.data.toList = false := by unfold sfName; rw [hsl, decide_eq_false (by omega : ¬ s.size ≤ 32), Bool.and_false]; rfl
      rw [e]
      clear hsl
      have h1' : ¬ ((s.size : Int) < 1) := by omega
      have h2' : ((32 : Int) < s.size) := by omega
      go_enter Tryz.func38, Tryz.ntmps38
      go_wp2
      go_ret
      exact ⟨rfl, rfl⟩
    · have h1' : ¬ ((s.size : Int) < 1) := by omega
      have h2' : ¬ ((32 : Int) < s.size) := by omega
      have HE : Hid (sfName s.data.toList = s.data.toList.all sfOkC) := by show sfName s.data.toList = _; unfold sfName; rw [hsl, decide_eq_true (by omega : 1 ≤ s.size), decide_eq_true (by omega : s.size ≤ 32)]; rfl
      have HL : Hid (s.data.toList.length = s.size) := hsl
      clear hsl
      go_enter Tryz.func38, Tryz.ntmps38
      go_wp2_with fail
      go_loopw [15] (fun i wr => ∃ k : Nat, i = .int .i64 (k : Int) ∧ k ≤ s.size ∧ Hid ((s.data.toList.take k).all sfOkC = true) ∧ wr = w) (fun i _ => s.size - (intOf i).toNat)
      case atStart => exact ⟨0, rfl, by omega, rfl, rfl⟩
      case round =>
        obtain ⟨k, rfl, hk, HA, rfl⟩ := hrel
        by_cases hlt : k < s.size
        · have hxe : s[k] = s.data.toList[k]'(by have := HL.out; omega) := rfl
          have HT : Hid (sfOkC s[k] = true → (s.data.toList.take (k + 1)).all sfOkC = true) := fun h => sfOk_take (by have := HL.out; omega) HA.out (hxe ▸ h)
          have HF : Hid (sfOkC s[k] = false → s.data.toList.all sfOkC = false) := fun h => sfOk_no (by have := HL.out; omega) (hxe ▸ h)
          clear hxe HA
          have hlt' : (k : Int) < (s.size : Int) := by omega
          generalize hx : s[k] = x at *
          have hall : (97 ≤ x.toNat ∧ x.toNat ≤ 122) ∨ (97 ≤ x.toNat ∧ 122 < x.toNat) ∨ (x.toNat < 97 ∧ 48 ≤ x.toNat ∧ x.toNat ≤ 57) ∨ (x.toNat < 97 ∧ 48 ≤ x.toNat ∧ 57 < x.toNat) ∨ (x.toNat < 48 ∧ x.toNat = 46) ∨ (x.toNat < 48 ∧ x.toNat ≠ 46 ∧ x.toNat = 45) ∨ (x.toNat < 48 ∧ x.toNat ≠ 46 ∧ x.toNat ≠ 45) := by omega
          rcases hall with h | h | h | h | h | h | h
          · have hb : sfOkC x = true := by unfold sfOkC; simp; omega
            have i0 : (97 : Int) ≤ (x.toNat : Int) := by omega
            have i1 : (x.toNat : Int) ≤ 122 := by omega
            have HN := (show Hid ((s.data.toList.take (k + 1)).all sfOkC = true) from HT.out hb)
            clear hb h HT HF
            go_wp2_with fail
            go_roundw
            case rel => exact ⟨k + 1, by go_num, by omega, HN, trivial⟩
            case measure => simp [intOf]; omega
          · have hb : sfOkC x = false := by unfold sfOkC; simp; omega
            have i0 : (97 : Int) ≤ (x.toNat : Int) := by omega
            have i1 : ¬ (x.toNat : Int) ≤ 122 := by omega
            have i2 : (48 : Int) ≤ (x.toNat : Int) := by omega
            have i3 : ¬ (x.toNat : Int) ≤ 57 := by omega
            have i4 : ((x.toNat : Int) == 46) = false := by simp; omega
            have i5 : ((x.toNat : Int) == 45) = false := by simp; omega
            have HN : Hid (sfName s.data.toList = false) := HE.out.trans (HF.out hb)
            clear hb h HT HF HE
            go_wp2_with fail
            go_ret
            exact ⟨by rw [HN.out]; rfl, rfl⟩
          · have hb : sfOkC x = true := by unfold sfOkC; simp; omega
            have i0 : ¬ (97 : Int) ≤ (x.toNat : Int) := by omega
            have i1 : (48 : Int) ≤ (x.toNat : Int) := by omega
            have i2 : (x.toNat : Int) ≤ 57 := by omega
            have HN := (show Hid ((s.data.toList.take (k + 1)).all sfOkC = true) from HT.out hb)
            clear hb h HT HF
            go_wp2_with fail
            go_roundw
            case rel => exact ⟨k + 1, by go_num, by omega, HN, trivial⟩
            case measure => simp [intOf]; omega
          · have hb : sfOkC x = false := by unfold sfOkC; simp; omega
            have i0 : ¬ (97 : Int) ≤ (x.toNat : Int) := by omega
            have i1 : (48 : Int) ≤ (x.toNat : Int) := by omega
            have i2 : ¬ (x.toNat : Int) ≤ 57 := by omega
            have i3 : ((x.toNat : Int) == 46) = false := by simp; omega
            have i4 : ((x.toNat : Int) == 45) = false := by simp; omega
            have HN : Hid (sfName s.data.toList = false) := HE.out.trans (HF.out hb)
            clear hb h HT HF HE
            go_wp2_with fail
            go_ret
            exact ⟨by rw [HN.out]; rfl, rfl⟩
          · have hb : sfOkC x = true := by unfold sfOkC; simp; omega
            have i0 : ¬ (97 : Int) ≤ (x.toNat : Int) := by omega
            have i1 : ¬ (48 : Int) ≤ (x.toNat : Int) := by omega
            have i2 : ((x.toNat : Int) == 46) = true := by simp; omega
            have HN := (show Hid ((s.data.toList.take (k + 1)).all sfOkC = true) from HT.out hb)
            clear hb h HT HF
            go_wp2_with fail
            go_roundw
            case rel => exact ⟨k + 1, by go_num, by omega, HN, trivial⟩
            case measure => simp [intOf]; omega
          · have hb : sfOkC x = true := by unfold sfOkC; simp; omega
            have i0 : ¬ (97 : Int) ≤ (x.toNat : Int) := by omega
            have i1 : ¬ (48 : Int) ≤ (x.toNat : Int) := by omega
            have i2 : ((x.toNat : Int) == 46) = false := by simp; omega
            have i3 : ((x.toNat : Int) == 45) = true := by simp; omega
            have HN := (show Hid ((s.data.toList.take (k + 1)).all sfOkC = true) from HT.out hb)
            clear hb h HT HF
            go_wp2_with fail
            go_roundw
            case rel => exact ⟨k + 1, by go_num, by omega, HN, trivial⟩
            case measure => simp [intOf]; omega
          · have hb : sfOkC x = false := by unfold sfOkC; simp; omega
            have i0 : ¬ (97 : Int) ≤ (x.toNat : Int) := by omega
            have i1 : ¬ (48 : Int) ≤ (x.toNat : Int) := by omega
            have i2 : ((x.toNat : Int) == 46) = false := by simp; omega
            have i3 : ((x.toNat : Int) == 45) = false := by simp; omega
            have HN : Hid (sfName s.data.toList = false) := HE.out.trans (HF.out hb)
            clear hb h HT HF HE
            go_wp2_with fail
            go_ret
            exact ⟨by rw [HN.out]; rfl, rfl⟩
        · have hlt' : ¬ (k : Int) < (s.size : Int) := by omega
          have hks : k = s.size := by omega
          have HN : Hid (sfName s.data.toList = true) := by
            show sfName s.data.toList = true
            rw [HE.out]
            have := HA.out
            rwa [List.take_of_length_le (by have := HL.out; omega)] at this
          clear hks HE HA HL
          go_wp2_with fail
          go_ret
          exact ⟨by rw [HN.out]; rfl, rfl⟩
theorem isName_any (s : List UInt8) (w : World) : Calls Tryz.prog 38 #[.string ⟨s.toArray⟩] w fun e w' => e = .returned (.bool (sfName s)) ∧ w' = w :=
  isName_b ⟨s.toArray⟩ w
end Go.Proofs.YtegcomopcoapjaaGreatDoor

/- A file system: a file is cut; acts are settled; the directory is changed. -/
namespace Go.Proofs.YtegcomopcoapjaaGreatDoor
open Go.RowKit Go.Maps

theorem add_zero' (a : Addr) : a.add 0 = a := by simp [Addr.add]
theorem run_slice_3 (a : Option Addr) (n cap N : Nat) (h : N ≤ cap) (w : World) : (Instr.slice 61 (.slice a n cap) none (some (.int .i64 (N : Int))) (some (.int .i64 (N : Int)))).run Tryz.prog w = .ok (.slice a N N) w := by
  have ha : (Option.map (fun x : Addr => x.add 0) a) = a := by cases a <;> simp [add_zero']
  simp [Instr.slice, run_underlying Tryz.underlying61, Instr.sliceBounds, Instr.sliceBound, asIntOf, h, Result.andThen, ha]
theorem cut_any {w : World} {b : Nat} {v : Value} {f : List UInt8 × Nat} (hf : w.heap[b]? = some (.cells #[v, .int .i64 (f.2 : Int)] 83)) (hb : BOwn w v f.1) (hs : f.2 ≤ f.1.length) (hl : f.1.length ≤ 1048576) (keep : Int) :
    Calls Tryz.prog 29 #[.pointer (some ⟨b, 0, none⟩), .int .i64 keep] w fun e w' => e = .returned (.tuple #[]) ∧
      ∃ v', (∀ k, v'.ownBlock = some k → v.ownBlock = some k) ∧ w'.heap[b]? = some (.cells #[v', .int .i64 ((sfCut f keep).2 : Int)] 83) ∧ BOwn w' v' (sfCut f keep).1 ∧ Onl (fun k => k = b) w w' ∧ w'.heap.size = w.heap.size := by
  obtain ⟨a, cap, rfl, hc1, hc2, hc3, hc4⟩ := hb.form
  obtain ⟨N, HN⟩ := hid_ex (f.2 + min (max keep 0).toNat (f.1.length - f.2))
  have hN : N ≤ f.1.length := by have := HN.out; omega
  have hsl := run_slice_3 a f.1.length cap N (by omega)
  have hmx : ∀ ts t w', (Builtin.max_ ts t #[.int .i64 keep, .int .i64 0]).run Tryz.prog w' = .ok (.int .i64 (((max keep 0).toNat : Nat) : Int)) w' := by
    intro ts t w'
    simp only [Builtin.max_]
    by_cases hk : keep < 0
    · have : (max keep 0).toNat = 0 := by omega
      simp [Builtin.max2, this]; omega
    · have : (((max keep 0).toNat : Nat) : Int) = keep := by omega
      rw [this]
      simp [Builtin.max2]; omega
  have hmn : ∀ ts t w', (Builtin.min_ ts t #[.int .i64 (((max keep 0).toNat : Nat) : Int), .int .i64 ((f.1.length : Int) - (f.2 : Int))]).run Tryz.prog w' = .ok (.int .i64 ((N : Int) - (f.2 : Int))) w' := by
    intro ts t w'
    have hx := HN.out
    simp [Builtin.min_, Builtin.min2]
    omega
  have c0 : ∀ n, (w.drewN n).cell? ⟨b, 0, none⟩ = some (.slice a f.1.length cap) := fun n => by simp [World.cell?, World.drewN, hf]
  have c1 : ∀ n, (w.drewN n).cell? ⟨b, 1, none⟩ = some (.int .i64 (f.2 : Int)) := fun n => by simp [World.cell?, World.drewN, hf]
  have z0 : ∀ n, (w.drewN n).frozen? ⟨b, 0, none⟩ = false := fun n => by simp [World.frozen?, World.drewN, hf]
  have z1 : ∀ n, (w.drewN n).frozen? ⟨b, 1, none⟩ = false := fun n => by simp [World.frozen?, World.drewN, hf]
  have HF := (show Hid _ from hf)
  have HB := (show Hid (BOwn w (.slice a f.1.length cap) f.1) from hb)
  clear hf hb
  generalize hk0 : (max keep 0).toNat = K at *
  have HKK : Hid ((max keep 0).toNat = K) := hk0
  clear hk0
  generalize hq : f.1.length = L at *
  have HQ : Hid (f.1.length = L) := hq
  clear hq
  generalize hq : f.2 = S at *
  have HS : Hid (f.2 = S) := hq
  clear hq
  go_enter Tryz.func29, Tryz.ntmps29
  go_wp2_with fail
  go_quiet (fail)
  go_wp2_with fail
  refine bodyPost_end (results_none rfl _ _ _) rfl ?_
  have eN : (S : Int) + ((N : Int) - S) = N := by omega
  rw [eN, Int.toNat_natCast]
  have e2 : (sfCut f keep).2 = N := by unfold sfCut; rw [HQ.out, HS.out, HN.out, HKK.out]
  have e1 : (sfCut f keep).1 = f.1.take N := by have : (sfCut f keep).1 = f.1.take (sfCut f keep).2 := rfl; rw [this, e2]
  rw [e1, e2]
  have g1 := cells_set (w := w.drewN nq) HF.out 0 (.slice a N N)
  have g2 := cells_set g1 1 (.int .i64 (N : Int))
  refine ⟨rfl, .slice a N N, ?_, ?_, ?_, ?_, ?_⟩
  · intro k hk; cases a <;> exact hk
  · simpa using g2
  · cases a with
    | none =>
      have : N = 0 := by have := (hc4 rfl).1; omega
      subst this
      exact GOwn.nil _ _ _
    | some x =>
      have hx := hc3 x rfl
      rw [hx] at HB ⊢
      have hcut := HB.out.cut (c := N) (by rw [HQ.out]; exact hN)
      refine GOwn.keep hcut fun k hk => ?_
      obtain ⟨cur, hc⟩ := GOwn.block hcut hk
      have hne := ty_ne hc HF.out (by decide)
      rw [Below.heap_setCell _ _ _ _ hne, Below.heap_setCell _ _ _ _ hne]
      rfl
  · exact ⟨rfl, rfl, rfl, by simp [World.setCell, World.drewN], fun k _ ho => by rw [Below.heap_setCell _ _ _ _ ho, Below.heap_setCell _ _ _ _ ho]; rfl⟩
  · simp [World.setCell, World.drewN]
end Go.Proofs.YtegcomopcoapjaaGreatDoor

/- A drawn region with a store at its end: what is loaded ahead of it is taken in the world ahead of it. -/
namespace Go.Proofs.YtegcomopcoapjaaGreatDoor
open Go.RowKit

section
variable {P : Program} {ops : Array Oper} {Q : Exit → Act → World → Prop} {md : Region.Mode} {k : Nat} {St Pr : World → Prop}
/-- What holds all the time, and what holds till operation k has come up. -/
def StK (k : Nat) (St Pr : World → Prop) (L : Array Bool) (w : World) : Prop := St w ∧ (L.getD k false = false → Pr w)
def wpAnyS (P : Program) (md : Region.Mode) (ops : Array Oper) (Q : Exit → Act → World → Prop) (k : Nat) (St Pr : World → Prop) : Nat → Array Bool → Act → World → Prop
  | 0, listed, a, w => Region.ready md ops listed = [] ∧ Q .normal a w
  | fuel + 1, listed, a, w =>
    (Region.ready md ops listed = [] → Q .normal a w) ∧
    ∀ i ∈ Region.ready md ops listed, wpOp P ops Q i (fun a' w' => StK k St Pr (listed.setIfInBounds i true) w' ∧ wpAnyS P md ops Q k St Pr fuel (listed.setIfInBounds i true) a' w') a w
theorem wpAny_of_S : ∀ (fuel : Nat) (listed : Array Bool) (a : Act) (w : World), wpAnyS P md ops Q k St Pr fuel listed a w → wpAny P md ops Q fuel listed a w
  | 0, _, _, _, h => h
  | fuel + 1, _, _, _, h => ⟨h.1, fun i hi => wpOp_mono (fun a' w' h' => wpAny_of_S fuel _ a' w' h'.2) (h.2 i hi)⟩
/-- Whatever came up, what it waits for came up. -/
def Cl (md : Region.Mode) (ops : Array Oper) (L : Array Bool) : Prop := ∀ j o, ops[j]? = some o → L.getD j false = true → ∀ e ∈ o.after, Region.binds md e = true → L.getD e.on false = true
def clB (md : Region.Mode) (ops : Array Oper) (L : Array Bool) : Bool := (List.range ops.size).all fun j => !L.getD j false || match ops[j]? with | some o => o.after.all (fun e => !Region.binds md e || L.getD e.on false) | none => true
theorem clB_spec {L : Array Bool} (h : clB md ops L = true) : Cl md ops L := by
  intro j o ho hl e he hb
  have h1 := List.all_eq_true.1 h j (List.mem_range.2 (Array.getElem?_eq_some_iff.1 ho).1)
  rw [hl, ho] at h1
  simp only [Bool.not_true, Bool.false_or] at h1
  have h2 := Array.all_eq_true_iff_forall_mem.1 h1 e he
  rw [hb] at h2
  simpa using h2
theorem Cl.set {L : Array Bool} {j : Nat} (h : Cl md ops L) (hj : j ∈ Region.ready md ops L) : Cl md ops (L.setIfInBounds j true) := by
  obtain ⟨_, o, ho, hall⟩ := mem_ready.1 hj
  intro i oi hoi hl e he hb
  by_cases hij : j = i
  · subst hij
    rw [ho] at hoi
    obtain rfl : o = oi := by simpa using hoi
    exact getD_set_true (hall e he hb)
  · rw [getD_set_ne false hij] at hl
    exact getD_set_true (h i oi hoi hl e he hb)
/-- Does operation k wait for i? -/
def waits (md : Region.Mode) (ops : Array Oper) (k i : Nat) : Bool := match ops[k]? with | some o => o.after.any (fun e => Region.binds md e && e.on == i) | none => false
theorem wpAnyS_first {i : Nat} {oi : Oper} {v : Value} (hi : ops[i]? = some oi) (hsel : ∀ (j : Nat) (o : Oper) cs b, ops[j]? = some o → o.op ≠ .select cs b)
    (hQ : ∀ c a w, Q (.panic c) (a.put oi.dst v) w → Q (.panic c) a w) (hik : i ≠ k) (dep : Bool) (hdep : waits md ops k i = dep) :
    ∀ (fuel : Nat) (listed : Array Bool) (a : Act) (w : World), Cl md ops listed →
      (∀ j oj, ops[j]? = some oj → j ≠ i → listed.getD j true = false → (∀ e ∈ oj.after, Region.binds md e = true → e.on ≠ i) → oi.apart ops oj = true) →
      i ∈ Region.ready md ops listed → YieldsIf P ops (fun w' => St w' ∧ (dep = true → Pr w')) oi v a → StK k St Pr listed w →
      wpAnyS P md ops Q k St Pr fuel (listed.setIfInBounds i true) (a.put oi.dst v) w → wpAnyS P md ops Q k St Pr (fuel + 1) listed a w := by
  have hdone : ∀ (listed : Array Bool) (w : World), Cl md ops listed → i ∈ Region.ready md ops listed → StK k St Pr listed w → (St w ∧ (dep = true → Pr w)) := fun listed w hcl hr hS => by
    refine ⟨hS.1, fun hd => hS.2 ?_⟩
    subst hdep
    unfold waits at hd
    cases hok : ops[k]? with
    | none => rw [hok] at hd; cases hd
    | some ok =>
      rw [hok] at hd
      obtain ⟨e, he, hq⟩ := Array.any_eq_true'.1 hd
      simp only [Bool.and_eq_true, beq_iff_eq] at hq
      cases hl : listed.getD k false with
      | false => rfl
      | true =>
        have h1 := hcl k ok hok hl e he hq.1
        rw [hq.2] at h1
        have h0 := (mem_ready.1 hr).1
        rcases Nat.lt_or_ge i listed.size with h' | h'
        · simp [h'] at h0 h1; rw [h0] at h1; cases h1
        · simp [Array.getElem?_eq_none h'] at h1
  have hset : ∀ (listed : Array Bool) (w : World), StK k St Pr listed w → StK k St Pr (listed.setIfInBounds i true) w := fun listed w h => ⟨h.1, fun hk => h.2 (by rw [getD_set_ne false hik] at hk; exact hk)⟩
  intro fuel
  induction fuel with
  | zero =>
    intro listed a w hcl _ hr hy hS H
    refine ⟨fun h => (by rw [h] at hr; cases hr), fun j hj => ?_⟩
    by_cases hji : j = i
    · subst hji; exact YieldsIf.wpOp (S := fun w' => St w' ∧ (dep = true → Pr w')) hi hy (hdone _ _ hcl hr hS) ⟨hset _ _ hS, H⟩
    · have := ready_mono hj hji
      rw [H.1] at this
      cases this
  | succ fuel ih =>
    intro listed a w hcl hfree hr hy hS H
    refine ⟨fun h => (by rw [h] at hr; cases hr), fun j hj => ?_⟩
    by_cases hji : j = i
    · subst hji; exact YieldsIf.wpOp (S := fun w' => St w' ∧ (dep = true → Pr w')) hi hy (hdone _ _ hcl hr hS) ⟨hset _ _ hS, H⟩
    · have h1 := H.2 j (ready_mono hj hji)
      obtain ⟨hjun, oj, hoj, hall⟩ := mem_ready.1 hj
      have hnot : ∀ e ∈ oj.after, Region.binds md e = true → e.on ≠ i := fun e he hb heq => by
        have h1 := hall e he hb
        have h0 := (mem_ready.1 hr).1
        rw [heq] at h1
        rcases Nat.lt_or_ge i listed.size with h' | h'
        · simp [h'] at h0 h1; rw [h0] at h1; cases h1
        · simp [Array.getElem?_eq_none h'] at h1
      have h2 := wpOp_putIf hoj (hfree j oj hoj hji hjun hnot) (fun cs b => hsel i oi cs b hi) (fun cs b => hsel j oj cs b hoj) hQ hy h1
      have hfree' : ∀ k ok, ops[k]? = some ok → k ≠ i → (listed.setIfInBounds j true).getD k true = false →
          (∀ e ∈ ok.after, Region.binds md e = true → e.on ≠ i) → oi.apart ops ok = true := fun k ok hk hki hun hno => by
        refine hfree k ok hk hki ?_ hno
        by_cases hjk : j = k
        · subst hjk; exact hjun
        · rw [getD_set_ne true hjk] at hun; exact hun
      refine wpOp_mono (fun a' w' h3 => ?_) h2
      have hS' : StK k St Pr (listed.setIfInBounds j true) w' := ⟨h3.2.1.1, fun hk => h3.2.1.2 (by
        rw [Array.setIfInBounds_comm _ _ (Ne.symm hji), getD_set_ne false hik]; exact hk)⟩
      refine ⟨hS', ih (listed.setIfInBounds j true) a' w' (hcl.set hj) hfree' (ready_mono hr (Ne.symm hji)) h3.1 hS' ?_⟩
      rw [Array.setIfInBounds_comm _ _ hji]
      exact h3.2.2
theorem wpAnyS_take {i : Nat} {oi : Oper} {v : Value} {fuel : Nat} {listed : Array Bool} {a : Act} {w : World} (dep : Bool) (hi : ops[i]? = some oi)
    (hs : Region.noSelect ops = true) (hf : Region.free md ops listed i = true) (hr : (Region.ready md ops listed).contains i = true) (hcl : clB md ops listed = true) (hik : Nat.beq i k = false) (hdep : waits md ops k i = dep)
    (hQ : ∀ c a w, Q (.panic c) (a.put oi.dst v) w → Q (.panic c) a w) (hy : YieldsIf P ops (fun w' => St w' ∧ (dep = true → Pr w')) oi v a) (hS : StK k St Pr listed w)
    (h : StK k St Pr (listed.setIfInBounds i true) w → wpAnyS P md ops Q k St Pr fuel (listed.setIfInBounds i true) (a.put oi.dst v) w) : wpAnyS P md ops Q k St Pr (fuel + 1) listed a w := by
  have hne : i ≠ k := fun e => by subst e; simp at hik
  exact wpAnyS_first hi (Region.noSelect_spec hs) hQ hne dep hdep fuel listed a w (clB_spec hcl) (Region.free_spec hi hf) (by simpa using hr) hy hS (h ⟨hS.1, fun hk => hS.2 (by rw [getD_set_ne false hne] at hk; exact hk)⟩)
theorem wpAnyS_ready {i : Nat} {o : Oper} {fuel : Nat} {listed : Array Bool} {a : Act} {w : World} (hr : Region.ready md ops listed = [i]) (ho : ops[i]? = some o)
    (h : ∀ K : Act → World → Prop, Shut (∀ a w, StK k St Pr (listed.setIfInBounds i true) w → (StK k St Pr (listed.setIfInBounds i true) w → wpAnyS P md ops Q k St Pr fuel (listed.setIfInBounds i true) a w) → K a w) → if Region.wanted o (yielded ops a.tmps) = true then Oper.wp P o a w K Q else K (a.put o.dst undef) w) : wpAnyS P md ops Q k St Pr (fuel + 1) listed a w := by
  refine ⟨fun h0 => (by rw [hr] at h0; cases h0), fun j hj => ?_⟩
  rw [hr] at hj
  obtain rfl : j = i := by simpa using hj
  exact wpOp_step ho (fun K' hK => h K' (fun a w h1 h2 => hK a w ⟨h1, h2 h1⟩))
theorem wpAnyS_done {listed : Array Bool} {a : Act} {w : World} (hr : Region.ready md ops listed = []) (h : Q .normal a w) : ∀ fuel, wpAnyS P md ops Q k St Pr fuel listed a w
  | 0 => ⟨hr, h⟩
  | _ + 1 => ⟨fun _ => h, by rw [hr]; simp⟩
theorem wp_region_S {id : Nat} {a : Act} {w : World} (k : Nat) (St Pr : World → Prop) (hm : P.follows .mixedOrders = true) (hS : St w.drew) (hP : Pr w.drew)
    (h : StK k St Pr (Array.replicate ops.size false) w.drew → wpAnyS P .any ops Q k St Pr ops.size (Array.replicate ops.size false) a w.drew) : (Code.region id ops true).wp P Q a w :=
  wp_region_any hm (wpAny_of_S _ _ _ _ (h ⟨hS, fun _ => hP⟩))
end
end Go.Proofs.YtegcomopcoapjaaGreatDoor
