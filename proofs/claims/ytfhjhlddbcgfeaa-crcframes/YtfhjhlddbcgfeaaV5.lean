/- The contract of crc.Next. -/
import Derived.Test.YtfhjhlddbcgfeaaV4
import Derived.Deep.QuietTactic
import Derived.BigQuiet
import Derived.Laws.CopyOwn
namespace Go.Proofs.Ytfhjhlddbcgfeaa
open Go.RowKit

/-- What Next tells: the data, how many bytes, what is wrong. -/
def nxF (l : List UInt8) : List UInt8 × Nat × Int :=
  if l.length < 4 then ([], 0, 10)
  else if 65535 < vle (l.take 4) then ([], 0, 2)
  else if l.length < vle (l.take 4) + 8 then ([], 0, 10)
  else if vle ((l.drop (4 + vle (l.take 4))).take 4) ≠ mor 0 (l.take (4 + vle (l.take 4))) then ([], 0, 20)
  else ((l.drop 4).take (vle (l.take 4)), vle (l.take 4) + 8, 0)
theorem reads_drop {w : World} {b off cap : Nat} {l : List UInt8} (c : Nat) (hc : c < l.length) (hcap : l.length ≤ cap) (hm : cap ≤ maxLen) (hb : b < w.heap.size) (h : ∀ j (h : j < l.length), w.cell? ⟨b, off + j, none⟩ = some (bc l[j])) : Reads w (.slice (some ⟨b, off + c, none⟩) (l.length - c) (cap - c)) (l.drop c) := by
  have hl : (l.drop c).length = l.length - c := by simp
  refine .inr ⟨b, off + c, cap - c, by rw [hl], by omega, by omega, by omega, hb, fun j hj => ?_⟩
  rw [Nat.add_assoc, h (c + j) (by omega)]
  simp
/-- A piece of it. -/
theorem reads_mid {w : World} {b off cap : Nat} {l : List UInt8} (c n : Nat) (hc : c + n ≤ l.length) (hcap : l.length ≤ cap) (hm : cap ≤ maxLen) (hb : b < w.heap.size) (h : ∀ j (h : j < l.length), w.cell? ⟨b, off + j, none⟩ = some (bc l[j])) : Reads w (.slice (some ⟨b, off + c, none⟩) n (cap - c)) ((l.drop c).take n) := by
  have hl : ((l.drop c).take n).length = n := by simp; omega
  rcases Nat.eq_zero_or_pos n with h0 | h0
  · subst h0; exact .inl ⟨rfl, _, _, rfl, fun h => by cases h⟩
  refine .inr ⟨b, off + c, cap - c, by rw [hl], by omega, by omega, by omega, hb, fun j hj => ?_⟩
  rw [Nat.add_assoc, h (c + j) (by omega)]
  simp
theorem vle_four_lt {l : List UInt8} (h : l.length ≤ 4) : vle l < 4294967296 := by
  have := vle_lt l
  have hp : 2 ^ (8 * l.length) ≤ 2 ^ 32 := Nat.pow_le_pow_right (by decide) (by omega)
  omega
theorem tup3 {v : Value} {x y z : Int} (h : x = y) : Ending.returned (.tuple #[v, .int .i64 x, .int .i64 z]) = .returned (.tuple #[v, .int .i64 y, .int .i64 z]) := by rw [h]
set_option maxRecDepth 100000 in
set_option maxHeartbeats 1000000 in
theorem next_short (a : Option Addr) (n cap : Nat) (hn : n < 4) (w : World) :
    Calls Try.prog 17 #[.slice a n cap] w fun e w' => e = .returned (.tuple #[.slice none 0 0, .int .i64 0, .int .i64 10]) ∧ w' = w := by
  have h1 : (n : Int) < 4 := by omega
  go_enter Try.func17, Try.ntmps17
  go_wp2_with fail
  go_ret3
  exact ⟨rfl, rfl⟩
set_option maxRecDepth 100000 in
set_option maxHeartbeats 1000000 in
theorem next_some (b off cap : Nat) (l : List UInt8) (h4 : 4 ≤ l.length) (hcap : l.length ≤ cap) (hm : cap ≤ maxLen) (w : World) (hb : b < w.heap.size)
    (hc : ∀ j (h : j < l.length), w.cell? ⟨b, off + j, none⟩ = some (bc l[j])) :
    Calls Try.prog 17 #[.slice (some ⟨b, off, none⟩) l.length cap] w fun e w' => ∃ v', e = .returned (.tuple #[v', .int .i64 ((nxF l).2.1 : Nat), .int .i64 (nxF l).2.2]) ∧ Own w' w.heap.size v' (nxF l).1 ∧ Below w.heap.size w w' := by
  have hR4 : Reads w (.slice (some ⟨b, off, none⟩) 4 cap) (l.take 4) := reads_take 4 h4 hcap hm hb hc
  have HC : Hid (∀ j (h : j < l.length), w.cell? ⟨b, off + j, none⟩ = some (bc l[j])) := hc
  have hlt4 : (l.take 4).length = 4 := by simp; omega
  have hv := vle_four_lt (l := l.take 4) (by omega)
  obtain ⟨n, HN⟩ := hid_ex (vle (l.take 4))
  have HX : Hid (nxF l = if l.length < 4 then ([], 0, 10)
  else if 65535 < n then ([], 0, 2)
  else if l.length < n + 8 then ([], 0, 10)
  else if vle ((l.drop (4 + n)).take 4) ≠ mor 0 (l.take (4 + n)) then ([], 0, 20)
  else ((l.drop 4).take n, n + 8, 0)) := by rw [HN.out]; rfl
  have hn : n < 4294967296 := by rw [HN.out]; exact hv
  have hmm : cap ≤ 9223372036854775807 := by unfold maxLen at hm; omega
  have HMX : Hid (cap ≤ maxLen) := hm
  clear hc hm hv
  have i1 : ¬ (l.length : Int) < 4 := by omega
  have i2 : (4 : Int) ≤ (cap : Int) := by omega
  go_enter Try.func17, Try.ntmps17
  go_wp2_with fail
  refine (number_any _ (l.take 4) (by omega) _ hR4).mono ?_
  rintro e w1 ⟨rfl, hw⟩
  subst w1
  rw [← HN.out]
  clear hR4 hlt4
  by_cases g1 : 65535 < n
  · have j1 : (65535 : Int) < (n : Int) := by omega
    have HY : Hid (nxF l = ([], 0, 2)) := by rw [HX.out, if_neg (by omega), if_pos g1]; rfl
    clear HX g1
    go_wp2_with fail
    go_ret3
    rw [HY.out]
    exact ⟨_, rfl, Own.nil _ _, Below.refl _ _⟩
  · have j1 : ¬ (65535 : Int) < (n : Int) := by omega
    by_cases g2 : l.length < n + 8
    · have j2 : (l.length : Int) < 4 + (n : Int) + 4 := by omega
      have HY : Hid (nxF l = ([], 0, 10)) := by rw [HX.out, if_neg (by omega), if_neg g1, if_pos g2]; rfl
      clear HX g1 g2
      go_wp2_with fail
      go_ret3
      rw [HY.out]
      exact ⟨_, rfl, Own.nil _ _, Below.refl _ _⟩
    · have j2 : ¬ (l.length : Int) < 4 + (n : Int) + 4 := by omega
      have j3 : 4 + (n : Int) + 4 ≤ (cap : Int) := by omega
      have j4 : 4 + (n : Int) ≤ (cap : Int) := by omega
      have HR1 : Hid (Reads w (.slice (some ⟨b, off + (4 + n), none⟩) 4 (cap - (4 + n))) ((l.drop (4 + n)).take 4)) := reads_mid (4 + n) 4 (by omega) hcap HMX.out hb HC.out
      have HR2 : Hid (Reads w (.slice (some ⟨b, off, none⟩) (4 + n) cap) (l.take (4 + n))) := reads_take (4 + n) (by omega) hcap HMX.out hb HC.out
      have HL4 : Hid (((l.drop (4 + n)).take 4).length ≤ 4) := by unfold Hid; simp; omega
      have j5 : ¬ (cap : Int) = 4 + (n : Int) := by omega
      clear i1 i2
      go_wp2_with fail
      go_quiet ((first | (go_at_call 25; exact Calls.quiet_of_same (number_any _ _ HL4.out _ (HR1.out.below (below_drewN (Below.refl _ _) _)))) | (go_at_call 10; exact Calls.quiet_of_same (sum_any _ _ _ (HR2.out.below (below_drewN (Below.refl _ _) _))))))
      have HBq : Hid (Below w.heap.size w (w.drewN nq)) := below_drewN (Below.refl _ _) nq
      clear HR1 HR2 HL4
      by_cases g3 : vle ((l.drop (4 + n)).take 4) = mor 0 (l.take (4 + n))
      · have HY : Hid (nxF l = ((l.drop 4).take n, n + 8, 0)) := by rw [HX.out, if_neg (by omega), if_neg g1, if_neg g2, if_neg (by simpa using g3)]; rfl
        have k1 : (((vle ((l.drop (4 + n)).take 4) : Nat) : Int) != ((mor 0 (l.take (4 + n)) : Nat) : Int)) = false := by simp [g3]
        obtain ⟨i0, hi, hz0, hz1, hz2⟩ := info_parts info5
        obtain ⟨w2, hrn, hown2, hg2⟩ := run_make_full (P := Try.prog) (w.drewN nq) w.heap.size 22 5 i0 (.int .u8 0) 1 Try.underlying22 hi hz0 hz1 .u32 .u32 n (by rw [hz2]; omega) (by unfold maxLen; omega) HBq.out.size
        have HB2 : Hid (Below w.heap.size w w2) := HBq.out.grown hg2 HBq.out.size (fun k hk => by cases hk)
        have hW : ∃ cur : List Value, Hid (w2.heap[w.heap.size]? = some (.cells cur.toArray 5 (0, 0))) ∧ cur.length = n := by
          obtain ⟨_, h | ⟨g, cp, cur, hv, hg, hh, _, _, hs, _⟩⟩ := hown2
          · simp at h
          · simp at hv
            obtain ⟨rfl, rfl⟩ := hv
            exact ⟨cur.toList, by unfold Hid; simpa using hh, by simpa using hs⟩
        obtain ⟨cur, HW, hcl⟩ := hW
        obtain ⟨cs, HCS⟩ := hid_ex (((l.drop 4).take n).map bc)
        have hcsl : cs.length = n := by rw [HCS.out]; simp; omega
        have HN2 : Hid (∀ j v, cs[j]? = some v → w2.cell? ((⟨b, off + 4, none⟩ : Addr).add j) = some v) := by
          have hr4 := reads_mid 4 n (by omega) hcap HMX.out hb HC.out
          have hr5 := hr4.below HB2.out
          rcases hr5 with ⟨hnil, _⟩ | ⟨b', off', cap', hv, _, _, _, _, hcc⟩
          · intro j v hj; rw [HCS.out, hnil] at hj; simp at hj
          · simp at hv
            obtain ⟨⟨rfl, rfl⟩, _, _⟩ := hv
            rw [HCS.out]; exact newsR hcc
        have HSP : Hid (splice cur 0 cs = cs) := by
          unfold Hid splice
          rw [List.take_zero, List.nil_append, Nat.zero_add, hcsl, ← hcl, List.drop_length, List.append_nil]
        have H1 : Hid (∀ v ∈ cs, v.oneCell' = true) := by unfold Hid; rw [HCS.out]; exact one_bc
        have k5 : (4 : Int) ≤ 4 + (n : Int) := by omega
        have k6 : ¬ (cap : Int) = 4 := by omega
        clear HX g1 g2 g3 hown2 hg2 HC j5
        obtain ⟨w3, hrc, HG3, HB3⟩ : ∃ w3, (Builtin.copy_ #[22, 22] 3 #[.slice (some ⟨w.heap.size, 0, none⟩) n n, .slice (some ⟨b, off + 4, none⟩) n (cap - 4)]).run Try.prog w2 = .ok (goInt cs.length) w3 ∧ Hid (w3.heap[w.heap.size]? = some (.cells (splice cur 0 cs).toArray 5 (0, 0))) ∧ Hid (Below w.heap.size w w3) := by
          refine ⟨_, run_copy_row (P := Try.prog) w2 22 22 3 5 w.heap.size 0 n n ⟨b, off + 4, none⟩ n (cap - 4) cur.toArray 5 cs Try.underlying22 (by rw [hi]; simp [hz1]) HW.out (by rw [hcsl]; simp) HN2.out (by simp; omega) H1.out, ?_, below_setRow HB2.out (Nat.le_refl _) _⟩
          unfold Hid splice
          rw [← List.append_assoc]
          exact setRow_heap w2 w.heap.size cur.toArray _ 5 (0, 0) HW.out
        go_wp2_with fail
        have HO3 : Own w3 w.heap.size (.slice (some ⟨w.heap.size, 0, none⟩) n n) ((l.drop 4).take n) := by
          have hlen : ((l.drop 4).take n).length = n := by simp; omega
          refine ⟨by simp, .inr ⟨w.heap.size, n, cs.toArray, by rw [hlen], Nat.le_refl _, ?_, by omega, by unfold maxLen; omega, by simp [hcsl], ?_⟩⟩
          · rw [← HSP.out]; exact HG3.out
          · rw [hlen, HCS.out, List.toList_toArray, Nat.mul_one]; exact List.take_of_length_le (by simp; omega)
        clear HG3 HW HSP H1 HN2 hrc
        go_wp2_with fail
        go_ret3
        rw [HY.out]
        exact ⟨_, tup3 (by show _ = ((n + 8 : Nat) : Int); omega), HO3, HB3.out⟩
      · have HY : Hid (nxF l = ([], 0, 20)) := by rw [HX.out, if_neg (by omega), if_neg g1, if_neg g2, if_pos g3]; rfl
        have k1 : (((vle ((l.drop (4 + n)).take 4) : Nat) : Int) != ((mor 0 (l.take (4 + n)) : Nat) : Int)) = true := by simp; omega
        clear HX g1 g2 g3
        go_wp2_with fail
        go_ret3
        rw [HY.out]
        exact ⟨_, rfl, Own.nil _ _, HBq.out⟩
theorem next_any (v : Value) (l : List UInt8) (w : World) (h : Reads w v l) :
    Calls Try.prog 17 #[v] w fun e w' => ∃ v', e = .returned (.tuple #[v', .int .i64 ((nxF l).2.1 : Nat), .int .i64 (nxF l).2.2]) ∧ Own w' w.heap.size v' (nxF l).1 ∧ Below w.heap.size w w' := by
  by_cases h4 : l.length < 4
  · obtain ⟨a, cap, rfl, _⟩ := h.form
    have e : nxF l = ([], 0, 10) := by rw [nxF, if_pos h4]
    rw [e]
    refine (next_short a l.length cap h4 w).mono ?_
    rintro e w' ⟨rfl, rfl⟩
    exact ⟨_, rfl, Own.nil _ _, Below.refl _ _⟩
  · rcases h with ⟨rfl, a, cap, rfl, _⟩ | ⟨b, off, cap, rfl, h2, h3, h4', h5, h6⟩
    · simp at h4
    · exact next_some b off cap l (by omega) h3 h4' w h5 h6
end Go.Proofs.Ytfhjhlddbcgfeaa
