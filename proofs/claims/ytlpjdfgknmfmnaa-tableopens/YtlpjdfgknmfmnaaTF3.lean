/- A3o W12 W13 BV, joined. -/
import Derived.Test.YtlpjdfgknmfmnaaTF2
import Derived.Laws.BitsAllLaws
import Derived.Deep.RegionHeld3
import Derived.Test.YtlpjdfgknmfmnaaRows
import Derived.WalkKit
import Derived.Laws.Strings
/- The contract of agg.Write, of what is over. -/
namespace Go.Proofs.Ytlpjdfgknmfmnaa
open Go.RowKit

set_option maxRecDepth 100000 in
set_option maxHeartbeats 1000000 in
theorem aggWrite_over (a : Ag) (ho : a.o = true) (hr : rightB a = true) (c1 : 0 ≤ a.c ∧ a.c < 18446744073709551616) (w : World) :
    Calls Try.prog 51 #[.agg #[.int .u64 a.c, .bool a.o, .int .i64 (hi a.s), .int .u64 (lo a.s), .int .i64 a.mn, .int .i64 a.mx]] w fun e w' => ∃ v, e = .returned (.tuple #[v, .int .i64 0]) ∧ w'.ownsRow (w.heap.size + 1) 5 1 v 41 ((aggBytes a).map (Value.int .u8)) ∧ Below w.heap.size w w' := by
  obtain ⟨i0, hif, hz0, hz1, hz2⟩ := info_parts info5
  have HO : Hid _ := ho
  have HR : Hid _ := hr
  clear ho hr
  have hmk := mk41
  have hz41 := zer41_0
  go_enter Try.func51, Try.ntmps51
  go_wp2_with fail
  refine (right_any a _).mono ?_
  rw [HR.out]
  rintro e w1 ⟨rfl, hb1⟩
  have hs1 : w.heap.size < w1.heap.size := by have := hb1.size; simp at this; omega
  have k0 := hb1.cell (p := ⟨w.heap.size, 0, none⟩) (by simp)
  have k1 := hb1.cell (p := ⟨w.heap.size, 1, none⟩) (by simp)
  have k2 := hb1.cell (p := ⟨w.heap.size, 2, none⟩) (by simp)
  have k3 := hb1.cell (p := ⟨w.heap.size, 3, none⟩) (by simp)
  have k4 := hb1.cell (p := ⟨w.heap.size, 4, none⟩) (by simp)
  have k5 := hb1.cell (p := ⟨w.heap.size, 5, none⟩) (by simp)
  simp [go_sem] at k0 k1 k2 k3 k4 k5
  rw [HO.out] at k1
  have HX : Hid (BoxA a w.heap.size w1) := ⟨hs1, k0, k2, k3, k4, k5⟩
  have HB1 : Hid (Below w.heap.size w w1) := ((Below.refl _ _).alloc (by simp) _).trans (hb1.mono (by simp))
  clear hb1
  go_wp2_with fail
  clear k0 k1 k2 k3 k4 k5 hmk
  have hown1 : (w1.alloc (.cells one41 5)).ownsRow (w.heap.size + 1) 5 1 (.slice (some ⟨w1.heap.size, 0, none⟩) 1 41) 1 [.int .u8 1] := by
    refine ⟨rfl, Or.inr ⟨w1.heap.size, 41, one41, rfl, by omega, ?_, by decide, by decide, rfl, rfl⟩⟩
    show (w1.heap.push _)[w1.heap.size]? = _
    simp
  refine (word1 (w1.heap.size + 1) a.c c1 _ (by simp) (by simp [go_sem])).mono ?_
  rintro e w2 ⟨v2, rfl, hown2, hb2⟩
  have hown3 := own_below (hown1.alloc (.cells #[.int .u64 a.c] 37)) hb2
  have hx2 : BoxA a w.heap.size w2 := (HX.out.al.al).below hb2
  have HB2 : Hid (Below w.heap.size w w2) := ((HB1.out.alloc HB1.out.size _).alloc (by simp; omega) _).trans (hb2.mono (by simp; omega))
  have hsz2 : w.heap.size + 1 < w2.heap.size := by have := hb2.size; simp at this; omega
  obtain ⟨g2, cap2, hv2, hg2, hg2', hnews2⟩ := own_form hown2 (by decide)
  rw [hv2]
  clear hown1 hb2 hown2 hv2
  go_wp2_with (at_builtin; refine wpList_append_own _ rfl (.tmp 13) (.tmp 17) 25 rfl (w.heap.size + 1) 5 i0 (.int .u8 0) 1 1 Try.underlying25 hif hz0 hz1 hz2 rfl (by decide) _ 1 _ rfl hown3 ⟨g2, 0, none⟩ 8 cap2 ((eight a.c).map (Value.int .u8)) rfl (by rw [List.length_map, eight_len]) hnews2 (by intro u hu; obtain ⟨z, _, rfl⟩ := List.mem_map.1 hu; rfl) (by unfold maxLen; omega) (by omega) ?c5 ?_)
  case c5 => omega
  intro v3 w3 hown4 hgrow3 _
  have hx3 : BoxA a w.heap.size w3 := hx2.grown hgrow3 (own_block1 hown3 _ (by omega))
  have HB3 : Hid (Below w.heap.size w w3) := HB2.out.grown hgrow3 HB2.out.size (fun k hk => by have := own_block hown3 k hk; omega)
  have hsz3 : w.heap.size + 1 < w3.heap.size := by have := hgrow3.size; omega
  obtain ⟨j0, j1, j2, j3, j4, j5⟩ := hx3
  have HX3 : Hid (BoxA a w.heap.size w3) := ⟨j0, j1, j2, j3, j4, j5⟩
  have HO4 : Hid _ := hown4
  clear hown3 hown4 hgrow3 hx2 hnews2
  go_wp2_with fail
  clear j1 j2 j3 j4 j5
  refine (wideWrite_any a.s _).mono ?_
  rintro e w4 ⟨v4, rfl, hown5, hb4⟩
  have hown6 := own_below HO4.out hb4
  have hx4 : BoxA a w.heap.size w4 := HX3.out.below hb4
  have HB4 : Hid (Below w.heap.size w w4) := HB3.out.trans (hb4.mono HB3.out.size)
  have hsz4 : w.heap.size + 1 < w4.heap.size := by have := hb4.size; omega
  obtain ⟨g4, cap4, hv4, hg4, hg4', hnews4⟩ := own_form hown5 (by decide)
  rw [hv4]
  clear hb4 hown5 hv4 HO4
  go_wp2_with (at_builtin; refine wpList_append_own _ rfl (.tmp 19) (.tmp 22) 25 rfl (w.heap.size + 1) 5 i0 (.int .u8 0) 1 1 Try.underlying25 hif hz0 hz1 hz2 rfl (by decide) _ 9 _ rfl hown6 ⟨g4, 0, none⟩ 16 cap4 ((sixteen (hi a.s % 18446744073709551616) (lo a.s)).map (Value.int .u8)) rfl (by rw [List.length_map, sixteen_len]) hnews4 (by intro u hu; obtain ⟨z, _, rfl⟩ := List.mem_map.1 hu; rfl) (by unfold maxLen; omega) (by omega) ?c5 ?_)
  case c5 => omega
  intro v5 w5 hown7 hgrow5 _
  have hx5 : BoxA a w.heap.size w5 := hx4.grown hgrow5 (own_block1 hown6 _ (by omega))
  have HB5 : Hid (Below w.heap.size w w5) := HB4.out.grown hgrow5 HB4.out.size (fun k hk => by have := own_block hown6 k hk; omega)
  have hsz5 : w.heap.size + 1 < w5.heap.size := by have := hgrow5.size; omega
  obtain ⟨j0, j1, j2, j3, j4, j5⟩ := hx5
  have HO7 : Hid _ := hown7
  clear hown6 hown7 hgrow5 hx4 hnews4
  go_wp2_with fail
  clear j1 j2 j3 j4 j5
  simp only [IntKind.wrap_u64]
  refine (word2 w5.heap.size (a.mn % 18446744073709551616) (a.mx % 18446744073709551616) (by omega) (by omega) _ (by simp) (by simp [go_sem]) (by simp [go_sem])).mono ?_
  rintro e w6 ⟨v6, rfl, hown8, hb6⟩
  have hown9 := own_below (World.ownsRow.alloc (Hid.out HO7) (.cells #[.int .u64 (a.mn % 18446744073709551616), .int .u64 (a.mx % 18446744073709551616)] 37)) hb6
  have HB6 : Hid (Below w.heap.size w w6) := (HB5.out.alloc HB5.out.size _).trans (hb6.mono (by simp; omega))
  have hsz6 : w.heap.size + 1 < w6.heap.size := by have := hb6.size; simp at this; omega
  obtain ⟨g6, cap6, hv6, hg6, hg6', hnews6⟩ := own_form hown8 (by decide)
  rw [hv6]
  clear hb6 hown8 hv6 HO7
  go_wp2_with (at_builtin; refine wpList_append_own _ rfl (.tmp 24) (.tmp 32) 25 rfl (w.heap.size + 1) 5 i0 (.int .u8 0) 1 1 Try.underlying25 hif hz0 hz1 hz2 rfl (by decide) _ 25 _ rfl hown9 ⟨g6, 0, none⟩ 16 cap6 ((sixteen (a.mn % 18446744073709551616) (a.mx % 18446744073709551616)).map (Value.int .u8)) rfl (by rw [List.length_map, sixteen_len]) hnews6 (by intro u hu; obtain ⟨z, _, rfl⟩ := List.mem_map.1 hu; rfl) (by unfold maxLen; omega) (by omega) ?c5 ?_)
  case c5 => omega
  intro v7 w7 hown10 hgrow7 _
  have HB7 : Hid (Below w.heap.size w w7) := HB6.out.grown hgrow7 HB6.out.size (fun k hk => by have := own_block hown9 k hk; omega)
  have HO10 : Hid (w7.ownsRow (w.heap.size + 1) 5 1 v7 41 ((aggBytes a).map (Value.int .u8))) := by
    have e : (aggBytes a).map (Value.int .u8) = [Value.int .u8 1] ++ (eight a.c).map (Value.int .u8) ++ (sixteen (hi a.s % 18446744073709551616) (lo a.s)).map (Value.int .u8) ++ (sixteen (a.mn % 18446744073709551616) (a.mx % 18446744073709551616)).map (Value.int .u8) := by
      unfold aggBytes; rw [HO.out]; simp
    rw [e]; exact hown10
  clear hown9 hown10 hgrow7 hnews6
  go_wp2_with fail
  go_ret2
  exact ⟨_, rfl, HO10.out, HB7.out⟩
end Go.Proofs.Ytlpjdfgknmfmnaa

/- The contract of word.Read: the number that eight bytes tell. -/
namespace Go.Proofs.Ytlpjdfgknmfmnaa
open Go.RowKit

/-- The number that bytes tell, the greatest first. -/
def beval (l : List Int) : Int := l.foldl (fun n x => n * 256 + x) 0
theorem beval_snoc (l : List Int) (x : Int) : beval (l ++ [x]) = beval l * 256 + x := by simp [beval, List.foldl_append]
theorem beval_take (l : List Int) (k : Nat) (h : k < l.length) : beval (l.take (k + 1)) = beval (l.take k) * 256 + l.getD k 0 := by
  rw [take_snocI l k h, beval_snoc]
theorem beval_bd (l : List Int) (hl : ∀ x ∈ l, 0 ≤ x ∧ x ≤ 255) : ∀ k : Nat, 0 ≤ beval (l.take k) ∧ beval (l.take k) < 256 ^ k := by
  intro k
  induction k with
  | zero => simp [beval]
  | succ k ih =>
    by_cases h : k < l.length
    · rw [beval_take l k h]
      have hx := hl _ (getD_mem l k h)
      obtain ⟨i1, i2⟩ := ih
      have e : (256 : Int) ^ (k + 1) = 256 ^ k * 256 := Int.pow_succ ..
      rw [e]
      generalize (256 : Int) ^ k = q at *
      omega
    · have e : l.take (k + 1) = l.take k := by rw [List.take_of_length_le (by omega), List.take_of_length_le (by omega)]
      rw [e]
      have e2 : (256 : Int) ^ (k + 1) = 256 ^ k * 256 := Int.pow_succ ..
      rw [e2]
      generalize (256 : Int) ^ k = q at *
      omega
theorem or_byte (n x : Int) (n1 : 0 ≤ n) (n2 : n < 72057594037927936) (x1 : 0 ≤ x) (x2 : x ≤ 255) : bits .or .u64 (n * 256) x = n * 256 + x := by
  obtain ⟨a, rfl⟩ := Int.eq_ofNat_of_zero_le n1
  obtain ⟨b, rfl⟩ := Int.eq_ofNat_of_zero_le x1
  have e : (a : Int) * 256 = ((a * 256 : Nat) : Int) := by omega
  rw [e, bits_or_u64_nat _ _ (by omega) (by omega), nat_join 8 _ _ (by omega) (by omega)]
  omega

set_option maxRecDepth 100000 in
set_option maxHeartbeats 1000000 in
theorem wordRead_any (b off cap : Nat) (zs : List Int) (hl : zs.length = 8) (hz : ∀ x ∈ zs, 0 ≤ x ∧ x ≤ 255) (w : World)
    (hc : ∀ i, i < 8 → w.cell? ⟨b, off + i, none⟩ = some (.int .u8 (zs.getD i 0))) :
    Calls Try.prog 92 #[.slice (some ⟨b, off, none⟩) 8 cap] w fun e w' => e = .returned (.int .u64 (beval zs)) ∧ w' = w := by
  go_enter Try.func92, Try.ntmps92
  go_wp2_with fail
  go_loop [3, 8] (fun n i => ∃ k : Nat, k ≤ 8 ∧ i = .int .i64 k ∧ n = .int .u64 (beval (zs.take k))) (fun _ i => 8 - (intOf i).toNat)
  case atStart => exact ⟨0, by omega, rfl, rfl⟩
  case round =>
    obtain ⟨k, hk, rfl, rfl⟩ := hrel
    by_cases hlt : k < 8
    · have hcell := hc k hlt
      have hx := hz _ (getD_mem zs k (by omega))
      have HT : Hid _ := beval_take zs k (by omega)
      have hb := beval_bd zs hz k
      have hq : (256 : Int) ^ k ≤ 72057594037927936 := by
        have : (256 : Int) ^ k ≤ 256 ^ 7 := by
          have h7 : (256 : Nat) ^ k ≤ 256 ^ 7 := Nat.pow_le_pow_right (by omega) (by omega)
          exact_mod_cast h7
        simpa using this
      generalize zs.getD k 0 = x at *
      generalize beval (zs.take k) = n at *
      generalize (256 : Int) ^ k = q at *
      obtain ⟨n1, n2⟩ := hb
      obtain ⟨x1, x2⟩ := hx
      have n3 : n < 72057594037927936 := by omega
      have hor := or_byte n x n1 n3 x1 x2
      clear hc hq n2
      go_wp2_with fail
      go_round
      case rel => exact ⟨k + 1, by omega, by go_num, by rw [HT.out]⟩
      case measure => simp [intOf]; omega
    · have hke : k = 8 := by omega
      subst hke
      have e : zs.take 8 = zs := List.take_of_length_le (by omega)
      clear hc
      go_wp2_with fail
      go_ret
      exact ⟨rfl, rfl⟩
end Go.Proofs.Ytlpjdfgknmfmnaa

/- The contract of wide.Read at sixteen bytes. -/
namespace Go.Proofs.Ytlpjdfgknmfmnaa
open Go.RowKit

theorem getD_take (l : List Int) (k i : Nat) (h : i < k) : (l.take k).getD i 0 = l.getD i 0 := by
  simp [h]
theorem getD_drop (l : List Int) (k i : Nat) : (l.drop k).getD i 0 = l.getD (k + i) 0 := by
  simp [List.getElem?_drop]

set_option maxRecDepth 100000 in
set_option maxHeartbeats 1000000 in
theorem wideRead16 (b off cap : Nat) (zs : List Int) (hl : zs.length = 16) (hz : ∀ x ∈ zs, 0 ≤ x ∧ x ≤ 255) (hcap : 16 ≤ cap) (hcap2 : cap ≤ maxLen) (w : World) (hbw : b < w.heap.size)
    (hc : ∀ i, i < 16 → w.cell? ⟨b, off + i, none⟩ = some (.int .u8 (zs.getD i 0))) :
    Calls Try.prog 91 #[.slice (some ⟨b, off, none⟩) 16 cap] w fun e w' => e = .returned (.tuple #[.agg #[.int .i64 (IntKind.i64.wrap (beval (zs.take 8))), .int .u64 (beval (zs.drop 8))], .int .i64 0]) ∧ Below w.heap.size w w' := by
  unfold maxLen at hcap2
  have HC1 : Hid (∀ i, i < 8 → ((w.alloc (.cells #[.int .i64 0, .int .u64 0] 39)).drew).cell? ⟨b, off + i, none⟩ = some (.int .u8 ((zs.take 8).getD i 0))) := by
    intro i hi
    rw [getD_take zs 8 i hi, ← hc i (by omega)]
    exact World.cell?_alloc_lt w _ ⟨b, off + i, none⟩ hbw
  have HC2 : Hid (∀ i, i < 8 → ((w.alloc (.cells #[.int .i64 0, .int .u64 0] 39)).drew).cell? ⟨b, off + 8 + i, none⟩ = some (.int .u8 ((zs.drop 8).getD i 0))) := by
    intro i hi
    rw [getD_drop zs 8 i, ← hc (8 + i) (by omega), Nat.add_assoc]
    exact World.cell?_alloc_lt w _ ⟨b, off + (8 + i), none⟩ hbw
  have HZ1 : Hid (∀ x ∈ zs.take 8, 0 ≤ x ∧ x ≤ 255) := fun x hx => hz x (List.mem_of_mem_take hx)
  have HZ2 : Hid (∀ x ∈ zs.drop 8, 0 ≤ x ∧ x ≤ 255) := fun x hx => hz x (List.mem_of_mem_drop hx)
  have HL1 : Hid ((zs.take 8).length = 8) := by unfold Hid; rw [List.length_take]; omega
  have HL2 : Hid ((zs.drop 8).length = 8) := by unfold Hid; rw [List.length_drop]; omega
  clear hc hz hl
  generalize zs.take 8 = z1 at *
  generalize zs.drop 8 = z2 at *
  have h8 : (8 : Int) ≤ (cap : Int) := by omega
  have h16 : (8 : Int) ≤ (16 : Int) := by omega
  go_enter Try.func91, Try.ntmps91
  go_wp2_with fail
  go_region_held3 (fun w' => b < w'.heap.size) ((simp; omega))
    (first
      | (go_at_call_of 92 (Value.slice (some ⟨b, off, none⟩) 8 cap); refine (wordRead_any b off cap z1 HL1.out HZ1.out _ HC1.out).mono ?_; rintro e w' ⟨rfl, rfl⟩)
      | (go_at_call 92; refine (wordRead_any b (off + 8) (cap - 8) z2 HL2.out HZ2.out _ HC2.out).mono ?_; rintro e w' ⟨rfl, rfl⟩))
  go_wp2_with fail
  refine bodyPost_ret (v := .tuple #[.agg #[.int .i64 (IntKind.i64.wrap (beval z1)), .int .u64 (beval z2)], .int .i64 0]) (by simp [results, Try.results91, go_sem]) rfl ⟨rfl, ?_⟩
  exact ((Below.refl _ _).alloc (by simp) _).drew
end Go.Proofs.Ytlpjdfgknmfmnaa

/- Plain words on the order of bytes: no program in sight. -/
namespace Go.Proofs.Ytlpjdfgknmfmnaa
open Go.RowKit

theorem u8_eq {x y : UInt8} (h : x.toNat = y.toNat) : x = y := UInt8.toNat_inj.1 h
/-- The value of bytes, the greatest first. -/
def bv : List UInt8 → Nat
  | [] => 0
  | x :: l => x.toNat * 256 ^ l.length + bv l
theorem bv_lt (l : List UInt8) : bv l < 256 ^ l.length := by
  induction l with
  | nil => simp [bv]
  | cons x l ih =>
    have hx := UInt8.toNat_lt x
    have h1 : x.toNat * 256 ^ l.length ≤ 255 * 256 ^ l.length := Nat.mul_le_mul_right _ (by omega)
    have h2 : 256 ^ (l.length + 1) = 256 * 256 ^ l.length := by rw [Nat.pow_succ, Nat.mul_comm]
    simp only [bv, List.length_cons]
    rw [h2]
    generalize 256 ^ l.length = q at *
    omega
theorem bv_eq (l : List UInt8) : ∀ m, l.length = m.length → bv l = bv m → l = m := by
  induction l with
  | nil => intro m h _; cases m with
    | nil => rfl
    | cons y m => simp at h
  | cons x l ih =>
    intro m h hb
    cases m with
    | nil => simp at h
    | cons y m =>
      simp at h
      have b1 := bv_lt l
      have b2 := bv_lt m
      simp only [bv] at hb
      rw [h] at hb b1
      rcases Nat.lt_trichotomy x.toNat y.toNat with g | g | g
      · exfalso
        have : (x.toNat + 1) * 256 ^ m.length ≤ y.toNat * 256 ^ m.length := Nat.mul_le_mul_right _ g
        rw [Nat.add_mul, Nat.one_mul] at this
        omega
      · have e := u8_eq g
        subst e
        rw [ih m h (by omega)]
      · exfalso
        have : (y.toNat + 1) * 256 ^ m.length ≤ x.toNat * 256 ^ m.length := Nat.mul_le_mul_right _ g
        rw [Nat.add_mul, Nat.one_mul] at this
        omega
end Go.Proofs.Ytlpjdfgknmfmnaa
