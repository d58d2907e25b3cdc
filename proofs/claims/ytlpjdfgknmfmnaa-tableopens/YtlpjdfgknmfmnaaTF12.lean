/- V3 V4 V5 F2, joined. -/
import Derived.Test.YtlpjdfgknmfmnaaTF4
import Derived.Test.YtlpjdfgknmfmnaaTF8
import Derived.Test.YtlpjdfgknmfmnaaTF9
import Derived.Deep.QuietTactic
import Derived.BigQuiet
import Derived.Laws.CopyOwn
import Derived.RangeFuncNested
import Derived.RangeFuncBound
import Derived.RangeFuncCalls
import Derived.Shelf.Abstract
import Derived.Shelf.RegionOpen
import Derived.WalkKit
import Derived.OwnWalkIn
import Derived.TacticsInMore
import Derived.LoopNIn
import Derived.LoopIn
/- The contracts of crc.number and crc.appendNumber. -/
namespace Go.Proofs.Ytlpjdfgknmfmnaa
open Go.RowKit

theorem vle_snoc (l : List UInt8) (x : UInt8) : vle (l ++ [x]) = vle l + x.toNat * 2 ^ (8 * l.length) := by
  induction l with
  | nil => simp [vle]
  | cons y l ih =>
    simp only [List.cons_append, vle, ih, List.length_cons]
    rw [show 8 * (l.length + 1) = 8 + 8 * l.length by omega, Nat.pow_add, Nat.mul_add, Nat.add_assoc]
    congr 1
    rw [← Nat.mul_assoc, ← Nat.mul_assoc, Nat.mul_comm (x.toNat) (2 ^ 8)]
theorem vle_lt (l : List UInt8) : vle l < 2 ^ (8 * l.length) := by
  induction l with
  | nil => simp [vle]
  | cons y l ih =>
    have := y.toNat_lt
    rw [vle, List.length_cons, show 8 * (l.length + 1) = 8 + 8 * l.length by omega, Nat.pow_add]
    omega
theorem x_or {l : List UInt8} {x : UInt8} (h : l.length < 4) : bits .or .u32 (vle l : Int) ((x.toNat * 2 ^ (8 * l.length) : Nat) : Int) = ((vle (l ++ [x]) : Nat) : Int) := by
  have hv := vle_lt l
  have hx := x.toNat_lt
  have hp : 2 ^ (8 * l.length) ≤ 2 ^ 24 := Nat.pow_le_pow_right (by decide) (by omega)
  have hm : x.toNat * 2 ^ (8 * l.length) ≤ 255 * 2 ^ 24 := Nat.mul_le_mul (by omega) hp
  rw [u32_or_nat _ _ (by omega) (by omega), vle_snoc, Nat.or_comm, Nat.mul_comm x.toNat, ← Nat.two_pow_add_eq_or_of_lt hv, Nat.add_comm]
set_option maxRecDepth 100000 in
set_option maxHeartbeats 1000000 in
theorem number_some (b off cap : Nat) (l : List UInt8) (hl : l.length ≤ 4) (w : World)
    (hc : ∀ j (h : j < l.length), w.cell? ⟨b, off + j, none⟩ = some (bc l[j])) :
    Calls Try.prog 100 #[.slice (some ⟨b, off, none⟩) l.length cap] w fun e w' => e = .returned (.int .u32 (vle l : Nat)) ∧ w' = w := by
  have HC : Hid (∀ j (h : j < l.length), w.cell? ⟨b, off + j, none⟩ = some (bc l[j])) := hc
  clear hc
  go_enter Try.func100, Try.ntmps100
  go_wp2_with fail
  go_loop [3, 8] (fun r i => ∃ k c : Nat, k ≤ l.length ∧ i = .int .i64 k ∧ r = .int .u32 (c : Int) ∧ Hid (c = vle (l.take k))) (fun _ i => l.length - (intOf i).toNat)
  case atStart => exact ⟨0, 0, Nat.zero_le _, rfl, rfl, rfl⟩
  case round =>
    obtain ⟨k, c, hk, rfl, rfl, HE⟩ := hrel
    by_cases hlt : k < l.length
    · have hcell := HC.out k hlt
      have hxb : l[k].toNat < 256 := l[k].toNat_lt
      have hkl : (l.take k).length = k := by simp; omega
      have hx := x_or (l := l.take k) (x := l[k]) (by omega)
      rw [← List.take_succ_eq_append_getElem hlt, ← HE.out, hkl] at hx
      unfold bc at hcell
      have h4 : (8 : Int) * (k : Int) ≤ 24 := by omega
      have HX : Hid (bits .or .u32 (c : Int) ((l[k].toNat : Int) * 2 ^ (8 * k) % 4294967296) = ((vle (l.take (k + 1)) : Nat) : Int)) := by
        have hp : 2 ^ (8 * k) ≤ 2 ^ 24 := Nat.pow_le_pow_right (by decide) (by omega)
        have hm : l[k].toNat * 2 ^ (8 * k) ≤ 255 * 2 ^ 24 := Nat.mul_le_mul (by omega) hp
        have e : ((l[k].toNat : Int) * 2 ^ (8 * k) % 4294967296) = ((l[k].toNat * 2 ^ (8 * k) : Nat) : Int) := by
          rw [show ((l[k].toNat : Int) * 2 ^ (8 * k)) = ((l[k].toNat * 2 ^ (8 * k) : Nat) : Int) by push_cast; rfl]
          generalize l[k].toNat * 2 ^ (8 * k) = q at *
          omega
        rw [Hid, e]; exact hx
      clear hkl hx
      go_wp2_with fail
      go_round
      case rel => exact ⟨k + 1, _, by omega, by go_num, by rw [HX.out], rfl⟩
      case measure => simp [intOf]; omega
    · have hkl : k = l.length := by omega
      have HS : Hid (c = vle l) := by
        unfold Hid
        rw [HE.out, hkl, List.take_length]
      clear hkl
      go_wp2_with fail
      go_ret
      exact ⟨by rw [HS.out]; rfl, rfl⟩
theorem number_none (a : Option Addr) (cap : Nat) (w : World) :
    Calls Try.prog 100 #[.slice a 0 cap] w fun e w' => e = .returned (.int .u32 (vle [] : Nat)) ∧ w' = w := by
  go_enter Try.func100, Try.ntmps100
  go_wp2_with fail
  go_loop [3, 8] (fun r i => i = .int .i64 0 ∧ r = .int .u32 0) (fun _ _ => 0)
  case atStart => exact ⟨rfl, rfl⟩
  case round =>
    obtain ⟨rfl, rfl⟩ := hrel
    go_wp2_with fail
    go_ret
    exact ⟨rfl, rfl⟩
theorem number_any_C (v : Value) (l : List UInt8) (hl : l.length ≤ 4) (w : World) (h : Reads w v l) :
    Calls Try.prog 100 #[v] w fun e w' => e = .returned (.int .u32 (vle l : Nat)) ∧ w' = w := by
  rcases h with ⟨rfl, a, cap, rfl, _⟩ | ⟨b, off, cap, rfl, h2, h3, h4, h5, h6⟩
  · exact number_none a cap w
  · exact number_some b off cap l hl w h6
/-- A number's bytes, so many, the least one first. -/
def frs (n : Nat) : Nat → List UInt8
  | 0 => []
  | k + 1 => frs n k ++ [UInt8.ofNat (n / 2 ^ (8 * k))]
theorem frs_len (n k : Nat) : (frs n k).length = k := by
  induction k with
  | zero => rfl
  | succ k ih => simp [frs, ih]
theorem frs_four (n : Nat) : frs n 4 = four n := by simp [frs, four]
set_option maxRecDepth 100000 in
set_option maxHeartbeats 1000000 in
theorem appendNumber_any (v : Value) (L : List UInt8) (n : Nat) (base : Nat) (w : World) (hown : Own w base v L) (hL : L.length ≤ 1000000) (hbase : base ≤ w.heap.size) :
    Calls Try.prog 55 #[v, .int .u32 (n : Int)] w fun e w' => ∃ v', e = .returned v' ∧ Own w' base v' (L ++ four n) ∧ Below base w w' := by
  go_enter Try.func55, Try.ntmps55
  go_wp2_with fail
  go_loopw [0, 6] (fun x i wr => ∃ (k : Nat) (M : List UInt8), k ≤ 4 ∧ i = .int .i64 (k : Int) ∧ Hid (M = L ++ frs n k) ∧ Own wr base x M ∧ Hid (Below base w wr)) (fun _ i _ => 4 - (intOf i).toNat)
  case atStart => exact ⟨0, L, by omega, rfl, by rw [frs, List.append_nil]; rfl, hown, Below.refl _ _⟩
  case round =>
    obtain ⟨k, M, hk, rfl, HM, HR, HB⟩ := hrel
    have hsz := HB.out.size
    have hml : M.length = L.length + k := by rw [HM.out, List.length_append, frs_len]
    by_cases hlt : k < 4
    · have h4 : (8 : Int) * (k : Int) ≤ 24 := by omega
      have HU : Hid (Value.int .u8 ((n : Int) / 2 ^ (8 * k) % 256) = bc (UInt8.ofNat (n / 2 ^ (8 * k)))) := by
        unfold Hid bc
        rw [UInt8.toNat_ofNat']
        push_cast; rfl
      have HN : Hid (M ++ [UInt8.ofNat (n / 2 ^ (8 * k))] = L ++ frs n (k + 1)) := by rw [HM.out, frs, List.append_assoc]; rfl
      generalize hM' : M ++ [UInt8.ofNat (n / 2 ^ (8 * k))] = M' at HN
      have HM' : Hid (M' = M ++ [UInt8.ofNat (n / 2 ^ (8 * k))]) := hM'.symm
      clear hM'
      go_wp2_with (at_builtin; refine wpList_app1 rfl _ _ rfl base _ M (UInt8.ofNat (n / 2 ^ (8 * k))) M' HM'.out HU.out rfl rfl HR (by omega) (by omega) ?_)
      intro v' w1 hown1 hb1
      have HB1 : Hid (Below base w w1) := HB.out.trans hb1.out
      clear hb1 HB HM'
      go_wp2_with fail
      go_roundw
      case rel => exact ⟨k + 1, M', by omega, by go_num, HN, hown1, HB1⟩
      case measure => simp [intOf]; omega
    · have HK : Hid (M = L ++ four n) := by
        have hk4 : k = 4 := by omega
        rw [HM.out, hk4, frs_four]; rfl
      clear hml
      go_wp2_with fail
      go_ret
      exact ⟨_, rfl, by rw [← HK.out]; exact HR, HB.out⟩
end Go.Proofs.Ytlpjdfgknmfmnaa

/- The contract of crc.Frame. -/
namespace Go.Proofs.Ytlpjdfgknmfmnaa
open Go.RowKit

/-- A frame. -/
def frm (l : List UInt8) : List UInt8 := (four l.length ++ l) ++ four (mor 0 (four l.length ++ l))
theorem four_len (n : Nat) : (four n).length = 4 := rfl
theorem frm_len (l : List UInt8) : (frm l).length = l.length + 8 := by unfold frm; simp [four_len]; omega
set_option maxRecDepth 100000 in
set_option maxHeartbeats 1000000 in
theorem frame_any (v : Value) (l : List UInt8) (hl : l.length ≤ 65535) (w : World) (hr : Reads w v l) :
    Calls Try.prog 21 #[v] w fun e w' => ∃ v', e = .returned (.tuple #[v', .int .i64 0]) ∧ Own w' w.heap.size v' (frm l) ∧ Below w.heap.size w w' := by
  obtain ⟨i0, hi, hz0, hz1, hz2⟩ := info_parts info5
  obtain ⟨w0, hrn, hown0, hg0⟩ := run_make_own (P := Try.prog) w w.heap.size 25 5 i0 (.int .u8 0) 1 Try.underlying25 hi hz0 hz1 .i64 .i64 (l.length + 8) (by rw [hz2]; omega) (by unfold maxLen; omega) (Nat.le_refl _)
  have e2 : ((l.length + 8 : Nat) : Int) = (l.length : Int) + 8 := by omega
  rw [e2] at hrn
  clear e2
  have HB0 : Hid (Below w.heap.size w w0) := (Below.refl _ _).grown hg0 (Nat.le_refl _) (fun k hk => by cases hk)
  have HO0 : Own w0 w.heap.size (.slice (some ⟨w.heap.size, 0, none⟩) 0 (l.length + 8)) [] := hown0
  clear hown0 hg0 hi hz0 hz1 hz2
  obtain ⟨a, cap, rfl, _⟩ := hr.form
  have hsz0 := HB0.out.size
  go_enter Try.func21, Try.ntmps21
  go_wp2_with fail
  refine (appendNumber_any _ [] l.length _ _ HO0 (by simp) hsz0).mono ?_
  rintro e w1 ⟨v1, rfl, HO1, hb1⟩
  have HB1 : Hid (Below w.heap.size w w1) := HB0.out.trans hb1
  have hr1 : Reads w1 (.slice a l.length cap) l := hr.below HB1.out
  have hsz1 := HB1.out.size
  clear hr hb1 hrn HO0
  obtain ⟨M, HM⟩ := hid_ex (([] ++ four l.length) ++ l)
  go_wp2_with (at_builtin; refine wpList_app rfl _ _ rfl w.heap.size _ _ ([] ++ four l.length) l M HM.out rfl rfl HO1 hr1 (by simp [four_len]; omega) hsz1 ?_)
  intro v2 w2 HO2 hb2
  have HB2 : Hid (Below w.heap.size w w2) := HB1.out.trans hb2.out
  have hsz2 := HB2.out.size
  have HML : Hid (M.length = l.length + 4) := by unfold Hid; rw [HM.out]; simp [four_len]; omega
  clear hb2 HO1 hr1
  go_wp2_with fail
  refine (sum_any _ M _ HO2.reads).mono ?_
  rintro e w3 ⟨rfl, hw⟩
  subst w3
  go_wp2_with fail
  refine (appendNumber_any _ M (mor 0 M) _ _ HO2 (by rw [HML.out]; omega) hsz2).mono ?_
  rintro e w4 ⟨v4, rfl, HO4, hb4⟩
  have HB4 : Hid (Below w.heap.size w w4) := HB2.out.trans hb4
  have HF : Hid (M ++ four (mor 0 M) = frm l) := by rw [HM.out]; rfl
  clear hb4 HO2
  go_wp2_with fail
  go_ret2
  exact ⟨_, rfl, by rw [← HF.out]; exact HO4, HB4.out⟩
theorem frame_long (v : Value) (l : List UInt8) (hl : 65535 < l.length) (w : World) (hr : Reads w v l) :
    Calls Try.prog 21 #[v] w fun e w' => e = .returned (.tuple #[.slice none 0 0, .int .i64 2]) ∧ w' = w := by
  obtain ⟨a, cap, rfl, _⟩ := hr.form
  clear hr
  have h1 : (65535 : Int) < (l.length : Int) := by omega
  go_enter Try.func21, Try.ntmps21
  go_wp2_with fail
  go_ret2
  exact ⟨rfl, rfl⟩
end Go.Proofs.Ytlpjdfgknmfmnaa

/- The contract of crc.Next. -/
namespace Go.Proofs.Ytlpjdfgknmfmnaa
open Go.RowKit

/-- What Next tells: the data, how many bytes, what is wrong. -/
def nxF (l : List UInt8) : List UInt8 × Nat × Int :=
  if l.length < 4 then ([], 0, 10)
  else if 65535 < vle (l.take 4) then ([], 0, 2)
  else if l.length < vle (l.take 4) + 8 then ([], 0, 10)
  else if vle ((l.drop (4 + vle (l.take 4))).take 4) ≠ mor 0 (l.take (4 + vle (l.take 4))) then ([], 0, 20)
  else ((l.drop 4).take (vle (l.take 4)), vle (l.take 4) + 8, 0)
/-- A piece of it. -/
theorem reads_mid {w : World} {b off cap : Nat} {l : List UInt8} (c n : Nat) (hc : c + n ≤ l.length) (hcap : l.length ≤ cap) (hm : cap ≤ maxLen) (hb : b < w.heap.size) (h : ∀ j (h : j < l.length), w.cell? ⟨b, off + j, none⟩ = some (bc l[j])) : Reads w (.slice (some ⟨b, off + c, none⟩) n (cap - c)) ((l.drop c).take n) := by
  have hl : ((l.drop c).take n).length = n := by simp; omega
  rcases Nat.eq_zero_or_pos n with h0 | h0
  · subst h0; exact .inl ⟨rfl, _, _, rfl, fun h => by cases h⟩
  refine .inr ⟨b, off + c, cap - c, by rw [hl], by omega, by omega, by omega, hb, fun j hj => ?_⟩
  rw [Nat.add_assoc, h (c + j) (by omega)]
  simp
theorem vle_four_lt {l : List UInt8} (h : l.length ≤ 4) : vle l < 4294967296 := by
  have := vle_lt l
  have hp : 2 ^ (8 * l.length) ≤ 2 ^ 32 := Nat.pow_le_pow_right (by decide) (by omega)
  omega
theorem tup3 {v : Value} {x y z : Int} (h : x = y) : Ending.returned (.tuple #[v, .int .i64 x, .int .i64 z]) = .returned (.tuple #[v, .int .i64 y, .int .i64 z]) := by rw [h]
set_option maxRecDepth 100000 in
set_option maxHeartbeats 1000000 in
theorem next_short (a : Option Addr) (n cap : Nat) (hn : n < 4) (w : World) :
    Calls Try.prog 90 #[.slice a n cap] w fun e w' => e = .returned (.tuple #[.slice none 0 0, .int .i64 0, .int .i64 10]) ∧ w' = w := by
  have h1 : (n : Int) < 4 := by omega
  go_enter Try.func90, Try.ntmps90
  go_wp2_with fail
  go_ret3
  exact ⟨rfl, rfl⟩
set_option maxRecDepth 100000 in
set_option maxHeartbeats 1000000 in
theorem next_some (b off cap : Nat) (l : List UInt8) (h4 : 4 ≤ l.length) (hcap : l.length ≤ cap) (hm : cap ≤ maxLen) (w : World) (hb : b < w.heap.size)
    (hc : ∀ j (h : j < l.length), w.cell? ⟨b, off + j, none⟩ = some (bc l[j])) :
    Calls Try.prog 90 #[.slice (some ⟨b, off, none⟩) l.length cap] w fun e w' => ∃ v', e = .returned (.tuple #[v', .int .i64 ((nxF l).2.1 : Nat), .int .i64 (nxF l).2.2]) ∧ Own w' w.heap.size v' (nxF l).1 ∧ Below w.heap.size w w' := by
  have hR4 : Reads w (.slice (some ⟨b, off, none⟩) 4 cap) (l.take 4) := reads_take 4 h4 hcap hm hb hc
  have HC : Hid (∀ j (h : j < l.length), w.cell? ⟨b, off + j, none⟩ = some (bc l[j])) := hc
  have hlt4 : (l.take 4).length = 4 := by simp; omega
  have hv := vle_four_lt (l := l.take 4) (by omega)
  obtain ⟨n, HN⟩ := hid_ex (vle (l.take 4))
  have HX : Hid (nxF l = if l.length < 4 then ([], 0, 10)
  else if 65535 < n then ([], 0, 2)
  else if l.length < n + 8 then ([], 0, 10)
  else if vle ((l.drop (4 + n)).take 4) ≠ mor 0 (l.take (4 + n)) then ([], 0, 20)
  else ((l.drop 4).take n, n + 8, 0)) := by rw [HN.out]; rfl
  have hn : n < 4294967296 := by rw [HN.out]; exact hv
  have hmm : cap ≤ 9223372036854775807 := by unfold maxLen at hm; omega
  have HMX : Hid (cap ≤ maxLen) := hm
  clear hc hm hv
  have i1 : ¬ (l.length : Int) < 4 := by omega
  have i2 : (4 : Int) ≤ (cap : Int) := by omega
  go_enter Try.func90, Try.ntmps90
  go_wp2_with fail
  refine (number_any_C _ (l.take 4) (by omega) _ hR4).mono ?_
  rintro e w1 ⟨rfl, hw⟩
  subst w1
  rw [← HN.out]
  clear hR4 hlt4
  by_cases g1 : 65535 < n
  · have j1 : (65535 : Int) < (n : Int) := by omega
    have HY : Hid (nxF l = ([], 0, 2)) := by rw [HX.out, if_neg (by omega), if_pos g1]; rfl
    clear HX g1
    go_wp2_with fail
    go_ret3
    rw [HY.out]
    exact ⟨_, rfl, Own.nil _ _, Below.refl _ _⟩
  · have j1 : ¬ (65535 : Int) < (n : Int) := by omega
    by_cases g2 : l.length < n + 8
    · have j2 : (l.length : Int) < 4 + (n : Int) + 4 := by omega
      have HY : Hid (nxF l = ([], 0, 10)) := by rw [HX.out, if_neg (by omega), if_neg g1, if_pos g2]; rfl
      clear HX g1 g2
      go_wp2_with fail
      go_ret3
      rw [HY.out]
      exact ⟨_, rfl, Own.nil _ _, Below.refl _ _⟩
    · have j2 : ¬ (l.length : Int) < 4 + (n : Int) + 4 := by omega
      have j3 : 4 + (n : Int) + 4 ≤ (cap : Int) := by omega
      have j4 : 4 + (n : Int) ≤ (cap : Int) := by omega
      have HR1 : Hid (Reads w (.slice (some ⟨b, off + (4 + n), none⟩) 4 (cap - (4 + n))) ((l.drop (4 + n)).take 4)) := reads_mid (4 + n) 4 (by omega) hcap HMX.out hb HC.out
      have HR2 : Hid (Reads w (.slice (some ⟨b, off, none⟩) (4 + n) cap) (l.take (4 + n))) := reads_take (4 + n) (by omega) hcap HMX.out hb HC.out
      have HL4 : Hid (((l.drop (4 + n)).take 4).length ≤ 4) := by unfold Hid; simp; omega
      have j5 : ¬ (cap : Int) = 4 + (n : Int) := by omega
      clear i1 i2
      go_wp2_with fail
      go_quiet ((first | (go_at_call 100; exact Calls.quiet_of_same (number_any_C _ _ HL4.out _ (HR1.out.below (below_drewN (Below.refl _ _) _)))) | (go_at_call 56; exact Calls.quiet_of_same (sum_any _ _ _ (HR2.out.below (below_drewN (Below.refl _ _) _))))))
      have HBq : Hid (Below w.heap.size w (w.drewN nq)) := below_drewN (Below.refl _ _) nq
      clear HR1 HR2 HL4
      by_cases g3 : vle ((l.drop (4 + n)).take 4) = mor 0 (l.take (4 + n))
      · have HY : Hid (nxF l = ((l.drop 4).take n, n + 8, 0)) := by rw [HX.out, if_neg (by omega), if_neg g1, if_neg g2, if_neg (by simpa using g3)]; rfl
        have k1 : (((vle ((l.drop (4 + n)).take 4) : Nat) : Int) != ((mor 0 (l.take (4 + n)) : Nat) : Int)) = false := by simp [g3]
        obtain ⟨i0, hi, hz0, hz1, hz2⟩ := info_parts info5
        obtain ⟨w2, hrn, hown2, hg2⟩ := run_make_full (P := Try.prog) (w.drewN nq) w.heap.size 25 5 i0 (.int .u8 0) 1 Try.underlying25 hi hz0 hz1 .u32 .u32 n (by rw [hz2]; omega) (by unfold maxLen; omega) HBq.out.size
        have HB2 : Hid (Below w.heap.size w w2) := HBq.out.grown hg2 HBq.out.size (fun k hk => by cases hk)
        have hW : ∃ cur : List Value, Hid (w2.heap[w.heap.size]? = some (.cells cur.toArray 5 (0, 0))) ∧ cur.length = n := by
          obtain ⟨_, h | ⟨g, cp, cur, hv, hg, hh, _, _, hs, _⟩⟩ := hown2
          · simp at h
          · simp at hv
            obtain ⟨rfl, rfl⟩ := hv
            exact ⟨cur.toList, by unfold Hid; simpa using hh, by simpa using hs⟩
        obtain ⟨cur, HW, hcl⟩ := hW
        obtain ⟨cs, HCS⟩ := hid_ex (((l.drop 4).take n).map bc)
        have hcsl : cs.length = n := by rw [HCS.out]; simp; omega
        have HN2 : Hid (∀ j v, cs[j]? = some v → w2.cell? ((⟨b, off + 4, none⟩ : Addr).add j) = some v) := by
          have hr4 := reads_mid 4 n (by omega) hcap HMX.out hb HC.out
          have hr5 := hr4.below HB2.out
          rcases hr5 with ⟨hnil, _⟩ | ⟨b', off', cap', hv, _, _, _, _, hcc⟩
          · intro j v hj; rw [HCS.out, hnil] at hj; simp at hj
          · simp at hv
            obtain ⟨⟨rfl, rfl⟩, _, _⟩ := hv
            rw [HCS.out]; exact newsR hcc
        have HSP : Hid (splice cur 0 cs = cs) := by
          unfold Hid splice
          rw [List.take_zero, List.nil_append, Nat.zero_add, hcsl, ← hcl, List.drop_length, List.append_nil]
        have H1 : Hid (∀ v ∈ cs, v.oneCell' = true) := by unfold Hid; rw [HCS.out]; exact one_bc
        have k5 : (4 : Int) ≤ 4 + (n : Int) := by omega
        have k6 : ¬ (cap : Int) = 4 := by omega
        clear HX g1 g2 g3 hown2 hg2 HC j5
        obtain ⟨w3, hrc, HG3, HB3⟩ : ∃ w3, (Builtin.copy_ #[25, 25] 3 #[.slice (some ⟨w.heap.size, 0, none⟩) n n, .slice (some ⟨b, off + 4, none⟩) n (cap - 4)]).run Try.prog w2 = .ok (goInt cs.length) w3 ∧ Hid (w3.heap[w.heap.size]? = some (.cells (splice cur 0 cs).toArray 5 (0, 0))) ∧ Hid (Below w.heap.size w w3) := by
          refine ⟨_, run_copy_row (P := Try.prog) w2 25 25 3 5 w.heap.size 0 n n ⟨b, off + 4, none⟩ n (cap - 4) cur.toArray 5 cs Try.underlying25 (by rw [hi]; simp [hz1]) HW.out (by rw [hcsl]; simp) HN2.out (by simp; omega) H1.out, ?_, below_setRow HB2.out (Nat.le_refl _) _⟩
          unfold Hid splice
          rw [← List.append_assoc]
          exact setRow_heap w2 w.heap.size cur.toArray _ 5 (0, 0) HW.out
        go_wp2_with fail
        have HO3 : Own w3 w.heap.size (.slice (some ⟨w.heap.size, 0, none⟩) n n) ((l.drop 4).take n) := by
          have hlen : ((l.drop 4).take n).length = n := by simp; omega
          refine ⟨by simp, .inr ⟨w.heap.size, n, cs.toArray, by rw [hlen], Nat.le_refl _, ?_, by omega, by unfold maxLen; omega, by simp [hcsl], ?_⟩⟩
          · rw [← HSP.out]; exact HG3.out
          · rw [hlen, HCS.out, List.toList_toArray, Nat.mul_one]; exact List.take_of_length_le (by simp; omega)
        clear HG3 HW HSP H1 HN2 hrc
        go_wp2_with fail
        go_ret3
        rw [HY.out]
        exact ⟨_, tup3 (by show _ = ((n + 8 : Nat) : Int); omega), HO3, HB3.out⟩
      · have HY : Hid (nxF l = ([], 0, 20)) := by rw [HX.out, if_neg (by omega), if_neg g1, if_neg g2, if_pos g3]; rfl
        have k1 : (((vle ((l.drop (4 + n)).take 4) : Nat) : Int) != ((mor 0 (l.take (4 + n)) : Nat) : Int)) = true := by simp; omega
        clear HX g1 g2 g3
        go_wp2_with fail
        go_ret3
        rw [HY.out]
        exact ⟨_, rfl, Own.nil _ _, HBq.out⟩
theorem next_any_C (v : Value) (l : List UInt8) (w : World) (h : Reads w v l) :
    Calls Try.prog 90 #[v] w fun e w' => ∃ v', e = .returned (.tuple #[v', .int .i64 ((nxF l).2.1 : Nat), .int .i64 (nxF l).2.2]) ∧ Own w' w.heap.size v' (nxF l).1 ∧ Below w.heap.size w w' := by
  by_cases h4 : l.length < 4
  · obtain ⟨a, cap, rfl, _⟩ := h.form
    have e : nxF l = ([], 0, 10) := by rw [nxF, if_pos h4]
    rw [e]
    refine (next_short a l.length cap h4 w).mono ?_
    rintro e w' ⟨rfl, rfl⟩
    exact ⟨_, rfl, Own.nil _ _, Below.refl _ _⟩
  · rcases h with ⟨rfl, a, cap, rfl, _⟩ | ⟨b, off, cap, rfl, h2, h3, h4', h5, h6⟩
    · simp at h4
    · exact next_some b off cap l (by omega) h3 h4' w h5 h6
end Go.Proofs.Ytlpjdfgknmfmnaa

/- The contract of crc's frames: what the function that is ranged over hands over. -/
namespace Go.Proofs.Ytlpjdfgknmfmnaa
open Go.RowKit Go.Shelf
attribute [local go_sem] Oper.semAt_some

/-- The frames at bytes' front: the data of each, and how many bytes it takes. -/
def alF : Nat → List UInt8 → List (List UInt8 × Nat)
  | 0, _ => []
  | n + 1, l => if (nxF l).2.2 = 0 then ((nxF l).1, (nxF l).2.1) :: alF n (l.drop (nxF l).2.1) else []
def ksum (xs : List (List UInt8 × Nat)) : Nat := (xs.map (·.2)).sum
theorem nxF_ok {l : List UInt8} (h : (nxF l).2.2 = 0) : 8 ≤ (nxF l).2.1 ∧ (nxF l).2.1 ≤ l.length := by
  unfold nxF at h ⊢
  by_cases h1 : l.length < 4
  · rw [if_pos h1] at h; simp at h
  · rw [if_neg h1] at h ⊢
    by_cases h2 : 65535 < vle (l.take 4)
    · rw [if_pos h2] at h; simp at h
    · rw [if_neg h2] at h ⊢
      by_cases h3 : l.length < vle (l.take 4) + 8
      · rw [if_pos h3] at h; simp at h
      · rw [if_neg h3] at h ⊢
        by_cases h4 : vle ((l.drop (4 + vle (l.take 4))).take 4) ≠ mor 0 (l.take (4 + vle (l.take 4)))
        · rw [if_pos h4] at h; simp at h
        · rw [if_neg h4]; exact ⟨by simp, by simp; omega⟩
/-- What is handed over: a slice, what it reads, how many bytes. -/
structure Fr where
  v : Value
  D : List UInt8
  k : Nat
def Fr.encs (x : Fr) : Array Value := #[x.v, .int .i64 (x.k : Int)]
def Fr.p (x : Fr) : List UInt8 × Nat := (x.D, x.k)
def PreF (n₀ : Nat) (L : Nat) (pre : List Fr) (x : Fr) (W : World) : Prop := Own W n₀ x.v x.D ∧ x.k + ksum (pre.map Fr.p) ≤ L ∧ 8 * (pre.length + 1) ≤ L
def vlen : Value → Nat
  | .slice _ n _ => n
  | _ => 0
theorem ksum_snoc (xs : List (List UInt8 × Nat)) (x : List UInt8 × Nat) : ksum (xs ++ [x]) = ksum xs + x.2 := by simp [ksum]
set_option maxRecDepth 100000 in
set_option maxHeartbeats 2000000 in
theorem frames1_in (n : Nat) (_hn : 1 ≤ n) (l Bn : Nat) (v : Value) (bs : List UInt8) (hbl : bs.length ≤ 1000000) (w : World) (hR : Reads w v bs) (J : List Fr → World → Prop) (W : World) (hW : Below w.heap.size w W)
    (hJ : ∀ pre A B, J pre A → Below A.heap.size A B → J pre B)
    (hY : ∀ pre x W1, J pre W1 → PreF w.heap.size bs.length pre x W1 → w.heap.size ≤ W1.heap.size → YieldAt Fence.wide (n - 1) Try.prog l x.encs W1 fun e W' => e = .returned (.bool true) ∧ J (pre ++ [x]) W' ∧ Below w.heap.size W1 W')
    (hBn : W.cell? ⟨Bn, 0, none⟩ = some v) (h0 : J [] W) :
    CallsIn Fence.wide n Try.prog 89 #[.func (.yield l) #[] #[], .pointer (some ⟨Bn, 0, none⟩)] W fun e W' => (∃ v, e = .returned v) ∧ ∃ xs, xs.map Fr.p = alF (bs.length + 1) bs ∧ J xs W' := by
  refine callsIn_of_wp Try.func89 rfl trivial ?_ rfl
  simp only [Try.ntmps89, List.size_toArray, List.length_cons, List.length_nil, Nat.reduceAdd, Nat.reduceSub, Array.replicate_succ, Array.replicate_zero, List.push_toArray, List.append_toArray, List.nil_append, List.cons_append]
  obtain ⟨a, cap, rfl, _⟩ := hR.form
  have HJ : Hid (∀ pre A B, J pre A → Below A.heap.size A B → J pre B) := hJ
  have HY : Hid (∀ pre x W1, J pre W1 → PreF w.heap.size bs.length pre x W1 → w.heap.size ≤ W1.heap.size → YieldAt Fence.wide (n - 1) Try.prog l x.encs W1 fun e W' => e = .returned (.bool true) ∧ J (pre ++ [x]) W' ∧ Below w.heap.size W1 W') := hY
  have HR0 : Hid (Reads w (.slice a bs.length cap) bs) := hR
  have HW0 : Hid (Below w.heap.size w W) := hW
  clear hJ hY hR hW
  gi_wp2
  gi_loopw [3] (fun x wr => ∃ (m : Nat) (r : List UInt8) (pre : List Fr), r.length < m ∧ Hid (Reads w x r) ∧ Hid (alF (bs.length + 1) bs = pre.map Fr.p ++ alF m r) ∧ ksum (pre.map Fr.p) + r.length = bs.length ∧ 8 * pre.length ≤ ksum (pre.map Fr.p) ∧ J pre wr ∧ Hid (Below w.heap.size w wr)) (fun x _ => vlen x)
  case atStart => exact ⟨bs.length + 1, bs, [], by omega, HR0, rfl, by simp [ksum], by simp [ksum], h0, HW0⟩
  case round =>
    obtain ⟨m, r, pre, hm, HR, HA, hks, h8, hJp, HB⟩ := hrel
    obtain ⟨m, rfl⟩ : ∃ m', m = m' + 1 := ⟨m - 1, by omega⟩
    obtain ⟨ar, cr, rfl, _⟩ := HR.out.form
    have hcall := next_any_C _ r _ (HR.out.below HB.out)
    obtain ⟨q, hq⟩ := hid_ex (nxF r)
    rw [← hq.out] at hcall
    have HA2 : Hid (alF (bs.length + 1) bs = pre.map Fr.p ++ (if q.2.2 = 0 then (q.1, q.2.1) :: alF m (r.drop q.2.1) else [])) := by rw [HA.out, hq.out]; rfl
    have HOK : Hid (q.2.2 = 0 → 8 ≤ q.2.1 ∧ q.2.1 ≤ r.length) := by rw [hq.out]; exact nxF_ok
    obtain ⟨D, k, E⟩ := q
    simp only at hcall HA2 HOK
    have HC : Hid _ := hcall
    clear hcall hq HA
    by_cases hE : E = 0
    · subst hE
      obtain ⟨f1, f2⟩ := HOK.out rfl
      have HA3 : Hid (alF (bs.length + 1) bs = pre.map Fr.p ++ (D, k) :: alF m (r.drop k)) := by rw [HA2.out, if_pos rfl]; rfl
      clear HA2 HOK
      gi_wp2_with fail
      refine ⟨trivial, ?_⟩
      refine (callsIn_wide.2 HC.out).mono ?_
      rintro e w1 ⟨v1, rfl, HO1, hb1⟩
      have HB1 : Hid (Below w.heap.size w w1) := HB.out.trans (hb1.mono HB.out.size)
      have hJ1 : J pre w1 := HJ.out pre _ _ hJp hb1
      have hPre : PreF w.heap.size bs.length pre ⟨v1, D, k⟩ w1 := ⟨HO1.mono HB.out.size, by show k + _ ≤ _; omega, by omega⟩
      obtain ⟨fn, tmps, assign, body, hy, hRd⟩ := HY.out pre ⟨v1, D, k⟩ w1 hJ1 hPre HB1.out.size
      dsimp only [Fr.encs] at hy
      clear HC hPre HO1 hb1
      gi_wp2
      refine hRd.mono ?_
      rintro e W3 ⟨rfl, hJ3, hk3⟩
      have HB3 : Hid (Below w.heap.size w W3) := HB1.out.trans hk3
      clear hy hRd hk3 hJ1 HB1
      have HA4 : Hid (alF (bs.length + 1) bs = (pre ++ [(⟨v1, D, k⟩ : Fr)]).map Fr.p ++ alF m (r.drop k)) := by rw [HA3.out]; simp [Hid, Fr.p]
      have hks2 : ksum ((pre ++ [(⟨v1, D, k⟩ : Fr)]).map Fr.p) = ksum (pre.map Fr.p) + k := by rw [List.map_append]; exact ksum_snoc _ _
      have HK2 : Hid (ksum ((pre ++ [(⟨v1, D, k⟩ : Fr)]).map Fr.p) = ksum (pre.map Fr.p) + k) := hks2
      have hdl : (r.drop k).length = r.length - k := by simp
      have HDL : Hid ((r.drop k).length = r.length - k) := hdl
      obtain ⟨b, off, rfl, _, _⟩ := HR.out.at 0 (by omega)
      have hcap := HR.out.cap (by omega)
      have HDR : Hid _ := HR.out.drop (c := k) f2 b off rfl
      clear hks2 hdl HA3
      have i1 : (k : Int) ≤ (r.length : Int) := by omega
      have i2 : (k : Int) ≤ (cr : Int) := by omega
      by_cases hc : (cr : Int) = (k : Int)
      · have HZ : Hid (r.drop k = []) := HDR.out.2 (by omega)
        have hl0 : r.length - k = 0 := by omega
        have HRN : Hid (Reads w (.slice (some ⟨b, off, none⟩) (r.length - k) (cr - k)) (r.drop k)) := by
          rw [HZ.out, hl0]; exact reads_nil (fun h => by cases h)
        clear HDR hl0
        gi_wp2
        go_roundw
        case rel => exact ⟨m, r.drop k, _, by rw [HDL.out]; omega, HRN, HA4, by rw [HK2.out, HDL.out]; omega, by rw [HK2.out]; simp; omega, hJ3, HB3⟩
        case measure => simp [vlen]; omega
      · have HRN : Hid (Reads w (.slice (some ⟨b, off + k, none⟩) (r.length - k) (cr - k)) (r.drop k)) := HDR.out.1 (by omega)
        clear HDR
        gi_wp2
        go_roundw
        case rel => exact ⟨m, r.drop k, _, by rw [HDL.out]; omega, HRN, HA4, by rw [HK2.out, HDL.out]; omega, by rw [HK2.out]; simp; omega, hJ3, HB3⟩
        case measure => simp [vlen]; omega
    · have HA3 : Hid (alF (bs.length + 1) bs = pre.map Fr.p) := by rw [HA2.out, if_neg hE, List.append_nil]; rfl
      have jE : (E == 0) = false := by simpa using hE
      have jE2 : (E != 0) = true := by simpa using hE
      clear HA2 HOK hE
      gi_wp2_with fail
      refine ⟨trivial, ?_⟩
      refine (callsIn_wide.2 HC.out).mono ?_
      rintro e w1 ⟨v1, rfl, HO1, hb1⟩
      have hJ1 : J pre w1 := HJ.out pre _ _ hJp hb1
      clear HC HO1 hb1
      gi_wp2
      refine ⟨fun _ h => (by cases h), ?_⟩
      gi_wp2
      refine bodyPost_ret (results_none rfl _ _ _) rfl ?_
      exact ⟨⟨_, rfl⟩, pre, HA3.out.symm, hJ1⟩
end Go.Proofs.Ytlpjdfgknmfmnaa
