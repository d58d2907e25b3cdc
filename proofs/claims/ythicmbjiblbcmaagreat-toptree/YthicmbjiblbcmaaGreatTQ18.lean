/- C5 C6 C8 C9 K2, joined. -/
import Derived.Test.YthicmbjiblbcmaaGreatTQ8
import Derived.Test.YthicmbjiblbcmaaGreatTQ16
import Derived.Test.YthicmbjiblbcmaaGreatTQ17
import Derived.Laws.BitsAllLaws
/- The contracts of code.Number and ReadNumber. -/
namespace Go.Proofs.YthicmbjiblbcmaaGreat
open Go.RowKit

theorem xor_top (a : Nat) (ha : a < 18446744073709551616) : a ^^^ 9223372036854775808 = (a + 9223372036854775808) % 18446744073709551616 := by
  have e1 : (9223372036854775808 : Nat) = 2 ^ 63 := by decide
  have e2 : (18446744073709551616 : Nat) = 2 ^ 64 := by decide
  rw [e1, e2, Nat.add_comm a]
  rw [e2] at ha
  apply Nat.eq_of_testBit_eq
  intro j
  rw [Nat.testBit_xor, Nat.testBit_mod_two_pow, Nat.testBit_two_pow]
  rcases Nat.lt_trichotomy j 63 with h | h | h
  · rw [Nat.testBit_two_pow_add_gt h]
    have h1 : decide (j < 64) = true := by simp; omega
    have h2 : decide (63 = j) = false := by simp; omega
    rw [h1, h2]; simp
  · subst h
    rw [Nat.testBit_two_pow_add_eq]; simp
  · have h1 : decide (j < 64) = false := by simp; omega
    have h2 : decide (63 = j) = false := by simp; omega
    have h3 : a.testBit j = false := Nat.testBit_lt_two_pow (Nat.lt_of_lt_of_le ha (Nat.pow_le_pow_right (by omega) (by omega)))
    rw [h1, h2, h3]; simp
theorem bits_top (v : Int) (h1 : -9223372036854775808 ≤ v) (h2 : v ≤ 9223372036854775807) : bits .xor .u64 (IntKind.u64.wrap v) 9223372036854775808 = v + 9223372036854775808 := by
  rw [IntKind.wrap_u64]
  obtain ⟨a, ha⟩ := Int.eq_ofNat_of_zero_le (show 0 ≤ v % 18446744073709551616 by omega)
  rw [ha]
  have e : (9223372036854775808 : Int) = ((9223372036854775808 : Nat) : Int) := rfl
  rw [e, bits_xor_u64_nat a _ (by omega) (by omega), xor_top a (by omega)]
  omega
theorem bits_topn (n : Int) (h1 : 0 ≤ n) (h2 : n ≤ 18446744073709551615) : IntKind.i64.wrap (bits .xor .u64 n 9223372036854775808) = n - 9223372036854775808 := by
  obtain ⟨a, ha⟩ := Int.eq_ofNat_of_zero_le h1
  subst ha
  have e : (9223372036854775808 : Int) = ((9223372036854775808 : Nat) : Int) := rfl
  rw [e, bits_xor_u64_nat a _ (by omega) (by omega), xor_top a (by omega), IntKind.wrap_i64]
  omega

/-- The eight bytes of a number in order. -/
def nb (v : Int) : List UInt8 := (eight (v + 9223372036854775808)).map fun z => UInt8.ofNat z.toNat
theorem nb_len (v : Int) : (nb v).length = 8 := by simp [nb, eight_len]
theorem byteOf_bd (x : Int) (i : Nat) : 0 ≤ byteOf x i ∧ byteOf x i ≤ 255 := by unfold byteOf; omega
theorem nb_cells (v : Int) : (eight (v + 9223372036854775808)).map (Value.int .u8) = (nb v).map bc := by
  unfold nb
  rw [List.map_map]
  apply List.map_congr_left
  intro z hz
  have hb : 0 ≤ z ∧ z ≤ 255 := by
    unfold eight bytesTo at hz
    obtain ⟨j, _, rfl⟩ := List.mem_map.1 hz
    exact byteOf_bd _ _
  obtain ⟨a, rfl⟩ := Int.eq_ofNat_of_zero_le hb.1
  show Value.int .u8 (a : Int) = bc (UInt8.ofNat a)
  rw [bc_of (by omega)]

set_option maxRecDepth 100000 in
set_option maxHeartbeats 1000000 in
theorem number_any (v : Int) (h1 : -9223372036854775808 ≤ v) (h2 : v ≤ 9223372036854775807) (w : World) :
    Calls Tryz.prog 70 #[.int .i64 v] w fun e w' => ∃ x, e = .returned x ∧ w'.ownsRow w.heap.size 5 1 x 8 ((nb v).map bc) ∧ Below w.heap.size w w' := by
  have ht := bits_top v h1 h2
  have HB : Hid (0 ≤ v + 9223372036854775808 ∧ v + 9223372036854775808 < 18446744073709551616) := by unfold Hid; omega
  clear h1 h2
  go_enter Tryz.func70, Tryz.ntmps70
  go_wp2_with fail
  refine (word1 _ (v + 9223372036854775808) HB.out _ (by simp) (by simp [go_sem])).mono ?_
  rintro e w1 ⟨x, rfl, hown, hb⟩
  rw [nb_cells] at hown
  have HO : Hid (w1.ownsRow w.heap.size 5 1 x 8 ((nb v).map bc)) := own_mono hown (by simp)
  have HBL : Hid (Below w.heap.size w w1) := ((Below.refl _ _).alloc (Nat.le_refl _) _).trans (hb.mono (by simp))
  clear hown hb
  go_wp2_with fail
  go_ret
  exact ⟨_, rfl, HO.out, HBL.out⟩

/-- What ReadNumber tells. -/
def rnF (l : List UInt8) : Int × Int × Int := if l.length < 8 then (0, 0, 10) else (beval ((l.take 8).map fun x => (x.toNat : Int)) - 9223372036854775808, 8, 0)
theorem beval8 (zs : List Int) (hl : zs.length = 8) (hz : ∀ x ∈ zs, 0 ≤ x ∧ x ≤ 255) : 0 ≤ beval zs ∧ beval zs ≤ 18446744073709551615 := by
  have h := beval_bd zs hz 8
  rw [List.take_of_length_le (by omega)] at h
  have e : (256 : Int) ^ 8 = 18446744073709551616 := by decide
  rw [e] at h
  omega
set_option maxRecDepth 100000 in
set_option maxHeartbeats 1000000 in
theorem readNumber_any (v : Value) (l : List UInt8) (w : World) (h : Reads w v l) :
    Calls Tryz.prog 89 #[v] w fun e w' => e = .returned (.tuple #[.int .i64 (rnF l).1, .int .i64 (rnF l).2.1, .int .i64 (rnF l).2.2]) ∧ Below w.heap.size w w' := by
  by_cases h8 : l.length < 8
  · have e : rnF l = (0, 0, 10) := by unfold rnF; rw [if_pos h8]
    rw [e]
    obtain ⟨a, cap, rfl, _⟩ := h.form
    have i1 : (l.length : Int) < 8 := by omega
    clear h e
    go_enter Tryz.func89, Tryz.ntmps89
    go_wp2_with fail
    go_ret3
    exact ⟨rfl, Below.refl _ _⟩
  · have e : rnF l = (beval ((l.take 8).map fun x => (x.toNat : Int)) - 9223372036854775808, 8, 0) := by unfold rnF; rw [if_neg h8]
    rw [e]
    rcases h with ⟨rfl, a, cap, rfl, _⟩ | ⟨b, off, cap, rfl, g2, g3, g4, g5, g6⟩
    · simp at h8
    have hlen : ((l.take 8).map fun x => (x.toNat : Int)).length = 8 := by simp; omega
    have hz : ∀ x ∈ ((l.take 8).map fun x => (x.toNat : Int)), 0 ≤ x ∧ x ≤ 255 := by
      intro x hx
      obtain ⟨y, _, rfl⟩ := List.mem_map.1 hx
      have := UInt8.toNat_lt y
      omega
    have hcc : ∀ i, i < 8 → w.cell? ⟨b, off + i, none⟩ = some (.int .u8 (((l.take 8).map fun x => (x.toNat : Int)).getD i 0)) := by
      intro i hi
      rw [g6 i (by omega)]
      unfold bc
      have e : ((l.take 8).map fun x => (x.toNat : Int)).getD i 0 = (l[i]'(by omega)).toNat := by
        have hl' : i < l.length := by omega
        simp [hi, List.getElem?_eq_getElem hl']
      rw [e]
    have hbe := beval8 _ hlen hz
    have ht := bits_topn _ hbe.1 hbe.2
    have HR : Hid (∀ cap w', w'.cell? = w.cell? → Calls Tryz.prog 104 #[.slice (some ⟨b, off, none⟩) 8 cap] w' fun e w2 => e = .returned (.int .u64 (beval ((l.take 8).map fun x => (x.toNat : Int)))) ∧ w2 = w') := by
      intro cap w' hw'
      exact wordRead_any b off cap _ hlen hz w' (by intro i hi; rw [hw']; exact hcc i hi)
    clear e hcc hz hlen hbe
    generalize beval ((l.take 8).map fun x => (x.toNat : Int)) = n at *
    have i1 : ¬ (l.length : Int) < 8 := by omega
    have i2 : (8 : Int) ≤ (cap : Int) := by omega
    have i3 : 8 ≤ cap := by omega
    clear g6 h8
    go_enter Tryz.func89, Tryz.ntmps89
    go_wp2_with fail
    refine (HR.out _ _ rfl).mono ?_
    rintro e w1 ⟨rfl, hw1⟩
    subst w1
    go_wp2_with fail
    go_ret3
    exact ⟨rfl, Below.refl _ _⟩
end Go.Proofs.YthicmbjiblbcmaaGreat

/- What the fixed calls of layer 4's 'alive' come to: true. -/
namespace Go.Proofs.YthicmbjiblbcmaaGreat
open Go.RowKit

end Go.Proofs.YthicmbjiblbcmaaGreat

/- Plain words on what is read of bytes: no program in sight. -/
namespace Go.Proofs.YthicmbjiblbcmaaGreat
open Go.RowKit

theorem u8_of {x : UInt8} {n : Nat} (h : x.toNat = n) : UInt8.ofNat n = x := by rw [← h]; exact UInt8.ofNat_toNat ..
/-- What ReadText reads, written again, stands there. -/
theorem rtF_ok (n : Nat) : ∀ (l acc : List UInt8) i S N, l.length ≤ n → rtF l acc i = (S, N, 0) →
    ∃ s c, N = i + c ∧ 2 ≤ c ∧ c ≤ l.length ∧ S = acc ++ s ∧ tx s = l.take c := by
  induction n with
  | zero =>
    intro l acc i S N hl h
    have : l = [] := List.length_eq_zero_iff.1 (by omega)
    subst this; simp [rtF] at h
  | succ n ih =>
    intro l acc i S N hl h
    match l, hl, h with
    | [], _, h => simp [rtF] at h
    | [x], _, h => rw [rtF_one] at h; simp at h
    | x :: y :: l, hl, h =>
      rw [rtF_cons2] at h
      simp at hl
      by_cases hx : x.toNat = 0
      · rw [if_pos hx] at h
        by_cases hy : y.toNat = 255
        · rw [if_pos hy] at h
          obtain ⟨s, c, h1, h2, h3, h4, h5⟩ := ih l (acc ++ [x]) (i + 2) S N (by omega) h
          refine ⟨x :: s, c + 2, by omega, by omega, by simp; omega, by rw [h4]; simp, ?_⟩
          unfold tx at *
          have ey : y = 255 := by rw [← u8_of hy]; rfl
          have e1 : txb (x :: s) = [x, 255] ++ txb s := by simp [txb, hx]
          rw [e1, List.append_assoc, h5, ← ey]; rfl
        · rw [if_neg hy] at h
          by_cases hy1 : y.toNat = 1
          · rw [if_pos hy1] at h
            simp only [Prod.mk.injEq] at h
            obtain ⟨rfl, rfl, _⟩ := h
            have ex : x = 0 := by rw [← u8_of hx]; rfl
            have ey : y = 1 := by rw [← u8_of hy1]; rfl
            exact ⟨[], 2, rfl, by omega, by simp, by simp, by rw [ex, ey]; rfl⟩
          · rw [if_neg hy1] at h; simp at h
      · rw [if_neg hx] at h
        obtain ⟨s, c, h1, h2, h3, h4, h5⟩ := ih (y :: l) (acc ++ [x]) (i + 1) S N (by simp; omega) h
        refine ⟨x :: s, c + 1, by omega, by omega, by simp at h3 ⊢; omega, by rw [h4]; simp, ?_⟩
        unfold tx at *
        have e1 : txb (x :: s) = [x] ++ txb s := by simp [txb, hx]
        rw [e1, List.append_assoc, h5]; rfl
end Go.Proofs.YthicmbjiblbcmaaGreat

/- Plain words on the order of bytes: no program in sight. -/
namespace Go.Proofs.YthicmbjiblbcmaaGreat
open Go.RowKit

theorem txb_cons0 {x : UInt8} (l : List UInt8) (h : x.toNat = 0) : txb (x :: l) = 0 :: 255 :: txb l := by
  have e : x = 0 := by rw [← u8_of h]; rfl
  simp [txb, e]
theorem txb_cons1 {x : UInt8} (l : List UInt8) (h : ¬ x.toNat = 0) : txb (x :: l) = x :: txb l := by simp [txb, h]
theorem u8_eq {x y : UInt8} (h : x.toNat = y.toNat) : x = y := UInt8.toNat_inj.1 h
/-- The value of bytes, the greatest first. -/
def bv : List UInt8 → Nat
  | [] => 0
  | x :: l => x.toNat * 256 ^ l.length + bv l
theorem bv_lt (l : List UInt8) : bv l < 256 ^ l.length := by
  induction l with
  | nil => simp [bv]
  | cons x l ih =>
    have hx := UInt8.toNat_lt x
    have h1 : x.toNat * 256 ^ l.length ≤ 255 * 256 ^ l.length := Nat.mul_le_mul_right _ (by omega)
    have h2 : 256 ^ (l.length + 1) = 256 * 256 ^ l.length := by rw [Nat.pow_succ, Nat.mul_comm]
    simp only [bv, List.length_cons]
    rw [h2]
    generalize 256 ^ l.length = q at *
    omega
theorem bv_eq (l : List UInt8) : ∀ m, l.length = m.length → bv l = bv m → l = m := by
  induction l with
  | nil => intro m h _; cases m with
    | nil => rfl
    | cons y m => simp at h
  | cons x l ih =>
    intro m h hb
    cases m with
    | nil => simp at h
    | cons y m =>
      simp at h
      have b1 := bv_lt l
      have b2 := bv_lt m
      simp only [bv] at hb
      rw [h] at hb b1
      rcases Nat.lt_trichotomy x.toNat y.toNat with g | g | g
      · exfalso
        have : (x.toNat + 1) * 256 ^ m.length ≤ y.toNat * 256 ^ m.length := Nat.mul_le_mul_right _ g
        rw [Nat.add_mul, Nat.one_mul] at this
        omega
      · have e := u8_eq g
        subst e
        rw [ih m h (by omega)]
      · exfalso
        have : (y.toNat + 1) * 256 ^ m.length ≤ x.toNat * 256 ^ m.length := Nat.mul_le_mul_right _ g
        rw [Nat.add_mul, Nat.one_mul] at this
        omega
theorem bv_nb (v : Int) (h1 : -9223372036854775808 ≤ v) (h2 : v ≤ 9223372036854775807) : (bv (nb v) : Int) = v + 9223372036854775808 := by
  obtain ⟨n, hn⟩ := Int.eq_ofNat_of_zero_le (show 0 ≤ v + 9223372036854775808 by omega)
  have hb : n < 18446744073709551616 := by omega
  unfold nb
  rw [hn]
  have e : eight (n : Int) = [((n / 72057594037927936 % 256 : Nat) : Int), ((n / 281474976710656 % 256 : Nat) : Int), ((n / 1099511627776 % 256 : Nat) : Int), ((n / 4294967296 % 256 : Nat) : Int), ((n / 16777216 % 256 : Nat) : Int), ((n / 65536 % 256 : Nat) : Int), ((n / 256 % 256 : Nat) : Int), ((n % 256 : Nat) : Int)] := by
    unfold eight bytesTo byteOf
    simp [List.range_succ]
  rw [e]
  have f : ∀ k : Nat, k < 256 → (UInt8.ofNat k).toNat = k := fun k hk => by simp [UInt8.toNat_ofNat']; omega
  simp only [List.map_cons, List.map_nil, bv, Int.toNat_natCast, List.length_cons, List.length_nil]
  rw [f _ (by omega), f _ (by omega), f _ (by omega), f _ (by omega), f _ (by omega), f _ (by omega), f _ (by omega), f _ (by omega)]
  omega
end Go.Proofs.YthicmbjiblbcmaaGreat

/- The contracts of key.joined and key.Group. -/
namespace Go.Proofs.YthicmbjiblbcmaaGreat
open Go.RowKit

/-- The dimensions' bytes, and those of the group. -/
def jb (L : List ByteArray) : List UInt8 := L.flatMap fun s => 1 :: tx s.data.toList
def jn (L : List ByteArray) : List UInt8 := jb L ++ [0]
theorem jb_snoc (L : List ByteArray) (s : ByteArray) : jb (L ++ [s]) = jb L ++ 1 :: tx s.data.toList := by simp [jb]
theorem jb_cons (s : ByteArray) (L : List ByteArray) : jb (s :: L) = 1 :: (tx s.data.toList ++ jb L) := by simp [jb]
theorem tx_len (l : List UInt8) : (tx l).length ≤ 2 * l.length + 2 := by
  have := txb_len l
  unfold tx; simp; omega
theorem jb_len (L : List ByteArray) (h : ∀ s ∈ L, s.size ≤ 16) : (jb L).length ≤ 35 * L.length := by
  induction L with
  | nil => simp [jb]
  | cons s L ih =>
    have h1 := h s (List.mem_cons_self ..)
    have h2 := ih fun t ht => h t (List.mem_cons_of_mem _ ht)
    have h3 := tx_len s.data.toList
    have h4 : s.data.toList.length = s.size := Array.length_toList
    rw [jb_cons]; simp; omega
set_option maxRecDepth 100000 in
set_option maxHeartbeats 1000000 in
theorem joined_some (b off cap : Nat) (L : List ByteArray) (h4 : L.length ≤ 4) (h16 : ∀ s ∈ L, s.size ≤ 16) (w : World) (hbw : b < w.heap.size) (hc : ∀ j (h : j < L.length), w.cell? ⟨b, off + j, none⟩ = some (.string L[j])) :
    Calls Tryz.prog 69 #[.slice (some ⟨b, off, none⟩) L.length cap] w fun e w' => ∃ v, e = .returned v ∧ Own w' w.heap.size v (jn L) ∧ Below w.heap.size w w' := by
  have HC : Hid (∀ j (h : j < L.length), w.cell? ⟨b, off + j, none⟩ = some (.string L[j])) := hc
  have HS : Hid (∀ s ∈ L, s.size ≤ 16) := h16
  clear hc h16
  go_enter Tryz.func69, Tryz.ntmps69
  go_wp2_with fail
  go_loopw [3, 8] (fun x i wr => ∃ (k : Nat) (M : List UInt8), k ≤ L.length ∧ i = .int .i64 (k : Int) ∧ Hid (M = jb (L.take k)) ∧ Own wr w.heap.size x M ∧ Hid (Below w.heap.size w wr)) (fun _ i _ => L.length - (intOf i).toNat)
  case atStart => exact ⟨0, [], by omega, rfl, rfl, Own.nil _ _, Below.refl _ _⟩
  case round =>
    obtain ⟨k, M, hk, rfl, HM, HR, HB⟩ := hrel
    have hsz := HB.out.size
    have hml : M.length ≤ 140 := by
      have := jb_len (L.take k) fun s hs => HS.out s (List.mem_of_mem_take hs)
      rw [← HM.out] at this; simp at this; omega
    by_cases hlt : k < L.length
    · have hcell := (HB.out.cell (p := ⟨b, off + k, none⟩) hbw).trans (HC.out k hlt)
      have hsk := HS.out _ (List.getElem_mem hlt)
      obtain ⟨M1, HM1⟩ := hid_ex (M ++ [(1 : UInt8)])
      obtain ⟨M2, HM2⟩ := hid_ex (M1 ++ tx L[k].data.toList)
      have HE : Hid (M2 = jb (L.take (k + 1))) := by
        rw [HM2.out, HM1.out, HM.out, List.take_succ_eq_append_getElem hlt, jb_snoc, List.append_assoc]; rfl
      have hm1 : M1.length = M.length + 1 := by rw [HM1.out]; simp
      have htl : (tx L[k].data.toList).length ≤ 34 := by
        have := tx_len L[k].data.toList
        have h4 : L[k].data.toList.length = L[k].size := Array.length_toList
        omega
      generalize L[k] = s at *
      have hss : s.size ≤ 10000 := by omega
      go_wp2_with (at_builtin; refine wpList_app1 rfl _ _ rfl w.heap.size _ M 1 M1 HM1.out rfl rfl rfl HR (by omega) hsz ?_)
      intro v1 w1 HR1 hb1
      have HB1 : Hid (Below w.heap.size w w1) := HB.out.trans hb1.out
      have hsz1 := HB1.out.size
      clear hb1 HR hcell HB hsz
      go_wp2_with fail
      refine (text_any s hss _).mono ?_
      rintro e w2 ⟨vt, rfl, hot, hb2⟩
      have HB2 : Hid (Below w.heap.size w w2) := HB1.out.trans (hb2.mono hsz1)
      have HR2 : Own w2 w.heap.size v1 M1 := HR1.below hb2
      have hrt : Reads w2 vt (tx s.data.toList) := reads_own hot
      have hsz2 := HB2.out.size
      clear hb2 HR1 hot HB1 hsz1
      go_wp2_with (at_builtin; refine wpList_app rfl _ _ rfl w.heap.size _ _ M1 (tx s.data.toList) M2 HM2.out rfl rfl HR2 hrt (by omega) hsz2 ?_)
      intro v3 w3 HR3 hb3
      have HB3 : Hid (Below w.heap.size w w3) := HB2.out.trans hb3.out
      clear hb3 HR2 HB2 hsz2 hrt
      go_wp2_with fail
      go_roundw
      case rel => exact ⟨k + 1, M2, by omega, by go_num, HE, HR3, HB3⟩
      case measure => simp [intOf]; omega
    · obtain ⟨M1, HM1⟩ := hid_ex (M ++ [(0 : UInt8)])
      have HE : Hid (M1 = jn L) := by
        rw [HM1.out, HM.out, List.take_of_length_le (by omega)]; rfl
      go_wp2_with (at_builtin; refine wpList_app1 rfl _ _ rfl w.heap.size _ M 0 M1 HM1.out rfl rfl rfl HR (by omega) hsz ?_)
      intro v1 w1 HR1 hb1
      have HB1 : Hid (Below w.heap.size w w1) := HB.out.trans hb1.out
      clear hb1 HR HB
      go_wp2_with fail
      go_ret
      exact ⟨_, rfl, by rw [← HE.out]; exact HR1, HB1.out⟩
set_option maxRecDepth 100000 in
set_option maxHeartbeats 1000000 in
theorem joined_none (a : Option Addr) (cap : Nat) (w : World) :
    Calls Tryz.prog 69 #[.slice a 0 cap] w fun e w' => ∃ v, e = .returned v ∧ Own w' w.heap.size v (jn []) ∧ Below w.heap.size w w' := by
  go_enter Tryz.func69, Tryz.ntmps69
  go_wp2_with fail
  go_loop [3, 8] (fun x i => i = .int .i64 0 ∧ x = .slice none 0 0) (fun _ _ => 0)
  case atStart => exact ⟨rfl, rfl⟩
  case round =>
    obtain ⟨rfl, rfl⟩ := hrel
    go_wp2_with (at_builtin; refine wpList_app1 rfl _ _ rfl w.heap.size _ [] 0 (jn []) rfl rfl rfl rfl (Own.nil _ _) (by simp) (Nat.le_refl _) ?_)
    intro v1 w1 HR1 hb1
    go_wp2_with fail
    go_ret
    exact ⟨_, rfl, HR1, hb1.out⟩
theorem joined_any (v : Value) (L : List ByteArray) (hm : mayB L = true) (w : World) (h : SReads w v L) :
    Calls Tryz.prog 69 #[v] w fun e w' => ∃ v, e = .returned v ∧ Own w' w.heap.size v (jn L) ∧ Below w.heap.size w w' := by
  obtain ⟨hm1, hm2⟩ := mayB_iff.1 hm
  rcases h with ⟨rfl, a, cap, rfl, _⟩ | ⟨b, off, cap, rfl, h2, h3, h4, h5, h6, h7⟩
  · exact joined_none a cap w
  · exact joined_some b off cap L hm1 hm2 w h5 h6
end Go.Proofs.YthicmbjiblbcmaaGreat
