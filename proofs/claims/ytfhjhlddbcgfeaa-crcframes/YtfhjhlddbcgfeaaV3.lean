/- The contracts of crc.number and crc.appendNumber. -/
import Derived.Test.YtfhjhlddbcgfeaaV2
namespace Go.Proofs.Ytfhjhlddbcgfeaa
open Go.RowKit

theorem vle_snoc (l : List UInt8) (x : UInt8) : vle (l ++ [x]) = vle l + x.toNat * 2 ^ (8 * l.length) := by
  induction l with
  | nil => simp [vle]
  | cons y l ih =>
    simp only [List.cons_append, vle, ih, List.length_cons]
    rw [show 8 * (l.length + 1) = 8 + 8 * l.length by omega, Nat.pow_add, Nat.mul_add, Nat.add_assoc]
    congr 1
    rw [← Nat.mul_assoc, ← Nat.mul_assoc, Nat.mul_comm (x.toNat) (2 ^ 8)]
theorem vle_lt (l : List UInt8) : vle l < 2 ^ (8 * l.length) := by
  induction l with
  | nil => simp [vle]
  | cons y l ih =>
    have := y.toNat_lt
    rw [vle, List.length_cons, show 8 * (l.length + 1) = 8 + 8 * l.length by omega, Nat.pow_add]
    omega
theorem x_or {l : List UInt8} {x : UInt8} (h : l.length < 4) : bits .or .u32 (vle l : Int) ((x.toNat * 2 ^ (8 * l.length) : Nat) : Int) = ((vle (l ++ [x]) : Nat) : Int) := by
  have hv := vle_lt l
  have hx := x.toNat_lt
  have hp : 2 ^ (8 * l.length) ≤ 2 ^ 24 := Nat.pow_le_pow_right (by decide) (by omega)
  have hm : x.toNat * 2 ^ (8 * l.length) ≤ 255 * 2 ^ 24 := Nat.mul_le_mul (by omega) hp
  rw [u32_or_nat _ _ (by omega) (by omega), vle_snoc, Nat.or_comm, Nat.mul_comm x.toNat, ← Nat.two_pow_add_eq_or_of_lt hv, Nat.add_comm]
set_option maxRecDepth 100000 in
set_option maxHeartbeats 1000000 in
theorem number_some (b off cap : Nat) (l : List UInt8) (hl : l.length ≤ 4) (w : World)
    (hc : ∀ j (h : j < l.length), w.cell? ⟨b, off + j, none⟩ = some (bc l[j])) :
    Calls Try.prog 25 #[.slice (some ⟨b, off, none⟩) l.length cap] w fun e w' => e = .returned (.int .u32 (vle l : Nat)) ∧ w' = w := by
  have HC : Hid (∀ j (h : j < l.length), w.cell? ⟨b, off + j, none⟩ = some (bc l[j])) := hc
  clear hc
  go_enter Try.func25, Try.ntmps25
  go_wp2_with fail
  go_loop [3, 8] (fun r i => ∃ k c : Nat, k ≤ l.length ∧ i = .int .i64 k ∧ r = .int .u32 (c : Int) ∧ Hid (c = vle (l.take k))) (fun _ i => l.length - (intOf i).toNat)
  case atStart => exact ⟨0, 0, Nat.zero_le _, rfl, rfl, rfl⟩
  case round =>
    obtain ⟨k, c, hk, rfl, rfl, HE⟩ := hrel
    by_cases hlt : k < l.length
    · have hcell := HC.out k hlt
      have hxb : l[k].toNat < 256 := l[k].toNat_lt
      have hkl : (l.take k).length = k := by simp; omega
      have hx := x_or (l := l.take k) (x := l[k]) (by omega)
      rw [← List.take_succ_eq_append_getElem hlt, ← HE.out, hkl] at hx
      unfold bc at hcell
      have h4 : (8 : Int) * (k : Int) ≤ 24 := by omega
      have HX : Hid (bits .or .u32 (c : Int) ((l[k].toNat : Int) * 2 ^ (8 * k) % 4294967296) = ((vle (l.take (k + 1)) : Nat) : Int)) := by
        have hp : 2 ^ (8 * k) ≤ 2 ^ 24 := Nat.pow_le_pow_right (by decide) (by omega)
        have hm : l[k].toNat * 2 ^ (8 * k) ≤ 255 * 2 ^ 24 := Nat.mul_le_mul (by omega) hp
        have e : ((l[k].toNat : Int) * 2 ^ (8 * k) % 4294967296) = ((l[k].toNat * 2 ^ (8 * k) : Nat) : Int) := by
          rw [show ((l[k].toNat : Int) * 2 ^ (8 * k)) = ((l[k].toNat * 2 ^ (8 * k) : Nat) : Int) by push_cast; rfl]
          generalize l[k].toNat * 2 ^ (8 * k) = q at *
          omega
        rw [Hid, e]; exact hx
      clear hkl hx
      go_wp2_with fail
      go_round
      case rel => exact ⟨k + 1, _, by omega, by go_num, by rw [HX.out], rfl⟩
      case measure => simp [intOf]; omega
    · have hkl : k = l.length := by omega
      have HS : Hid (c = vle l) := by
        unfold Hid
        rw [HE.out, hkl, List.take_length]
      clear hkl
      go_wp2_with fail
      go_ret
      exact ⟨by rw [HS.out]; rfl, rfl⟩
theorem number_none (a : Option Addr) (cap : Nat) (w : World) :
    Calls Try.prog 25 #[.slice a 0 cap] w fun e w' => e = .returned (.int .u32 (vle [] : Nat)) ∧ w' = w := by
  go_enter Try.func25, Try.ntmps25
  go_wp2_with fail
  go_loop [3, 8] (fun r i => i = .int .i64 0 ∧ r = .int .u32 0) (fun _ _ => 0)
  case atStart => exact ⟨rfl, rfl⟩
  case round =>
    obtain ⟨rfl, rfl⟩ := hrel
    go_wp2_with fail
    go_ret
    exact ⟨rfl, rfl⟩
theorem number_any (v : Value) (l : List UInt8) (hl : l.length ≤ 4) (w : World) (h : Reads w v l) :
    Calls Try.prog 25 #[v] w fun e w' => e = .returned (.int .u32 (vle l : Nat)) ∧ w' = w := by
  rcases h with ⟨rfl, a, cap, rfl, _⟩ | ⟨b, off, cap, rfl, h2, h3, h4, h5, h6⟩
  · exact number_none a cap w
  · exact number_some b off cap l hl w h6
/-- A number's bytes, so many, the least one first. -/
def frs (n : Nat) : Nat → List UInt8
  | 0 => []
  | k + 1 => frs n k ++ [UInt8.ofNat (n / 2 ^ (8 * k))]
theorem frs_len (n k : Nat) : (frs n k).length = k := by
  induction k with
  | zero => rfl
  | succ k ih => simp [frs, ih]
theorem frs_four (n : Nat) : frs n 4 = four n := by simp [frs, four]
set_option maxRecDepth 100000 in
set_option maxHeartbeats 1000000 in
theorem appendNumber_any (v : Value) (L : List UInt8) (n : Nat) (base : Nat) (w : World) (hown : Own w base v L) (hL : L.length ≤ 1000000) (hbase : base ≤ w.heap.size) :
    Calls Try.prog 23 #[v, .int .u32 (n : Int)] w fun e w' => ∃ v', e = .returned v' ∧ Own w' base v' (L ++ four n) ∧ Below base w w' := by
  go_enter Try.func23, Try.ntmps23
  go_wp2_with fail
  go_loopw [0, 6] (fun x i wr => ∃ (k : Nat) (M : List UInt8), k ≤ 4 ∧ i = .int .i64 (k : Int) ∧ Hid (M = L ++ frs n k) ∧ Own wr base x M ∧ Hid (Below base w wr)) (fun _ i _ => 4 - (intOf i).toNat)
  case atStart => exact ⟨0, L, by omega, rfl, by rw [frs, List.append_nil]; rfl, hown, Below.refl _ _⟩
  case round =>
    obtain ⟨k, M, hk, rfl, HM, HR, HB⟩ := hrel
    have hsz := HB.out.size
    have hml : M.length = L.length + k := by rw [HM.out, List.length_append, frs_len]
    by_cases hlt : k < 4
    · have h4 : (8 : Int) * (k : Int) ≤ 24 := by omega
      have HU : Hid (Value.int .u8 ((n : Int) / 2 ^ (8 * k) % 256) = bc (UInt8.ofNat (n / 2 ^ (8 * k)))) := by
        unfold Hid bc
        rw [UInt8.toNat_ofNat']
        push_cast; rfl
      have HN : Hid (M ++ [UInt8.ofNat (n / 2 ^ (8 * k))] = L ++ frs n (k + 1)) := by rw [HM.out, frs, List.append_assoc]; rfl
      generalize hM' : M ++ [UInt8.ofNat (n / 2 ^ (8 * k))] = M' at HN
      have HM' : Hid (M' = M ++ [UInt8.ofNat (n / 2 ^ (8 * k))]) := hM'.symm
      clear hM'
      go_wp2_with (at_builtin; refine wpList_app1 rfl _ _ rfl base _ M (UInt8.ofNat (n / 2 ^ (8 * k))) M' HM'.out HU.out rfl rfl HR (by omega) (by omega) ?_)
      intro v' w1 hown1 hb1
      have HB1 : Hid (Below base w w1) := HB.out.trans hb1.out
      clear hb1 HB HM'
      go_wp2_with fail
      go_roundw
      case rel => exact ⟨k + 1, M', by omega, by go_num, HN, hown1, HB1⟩
      case measure => simp [intOf]; omega
    · have HK : Hid (M = L ++ four n) := by
        have hk4 : k = 4 := by omega
        rw [HM.out, hk4, frs_four]; rfl
      clear hml
      go_wp2_with fail
      go_ret
      exact ⟨_, rfl, by rw [← HK.out]; exact HR, HB.out⟩
end Go.Proofs.Ytfhjhlddbcgfeaa
