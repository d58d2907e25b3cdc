/- TN4 V5 F2 F3, joined. -/
import Derived.Test.YtgjbnampjgpmfaaTB4
import Derived.Test.YtgjbnampjgpmfaaTB8
import Derived.Test.YtgjbnampjgpmfaaTB11
import Derived.Test.YtgjbnampjgpmfaaTB15
import Derived.Deep.QuietTactic
import Derived.BigQuiet
import Derived.Laws.CopyOwn
import Derived.RangeFuncNested
import Derived.RangeFuncBound
import Derived.RangeFuncCalls
import Derived.Shelf.Abstract
import Derived.Shelf.RegionOpen
import Derived.WalkKit
import Derived.OwnWalkIn
import Derived.TacticsInMore
import Derived.LoopNIn
import Derived.LoopIn
import Derived.RangeFuncBox
import Derived.Maps.AppendAt
import Derived.RegionIn
/- slices.Chunk of none, for table.Write of none: the walk of Write goes on from here: mayBe_nil, chunk_nil, then Code.rangeFunc. -/
namespace Go.Proofs.Ytgjbnampjgpmfaa
open Go.RowKit

theorem chunk_nil (w : World) : Calls Try.prog 25 #[.slice none 0 0, .int .i64 16] w fun e w' => e = .returned (.func (.func 40) #[] #[.pointer (some ⟨w.heap.size, 0, none⟩), .pointer (some ⟨w.heap.size + 1, 0, none⟩)]) ∧ w' = (w.alloc (.cells #[.slice none 0 0] 42)).alloc (.cells #[.int .i64 16] 3) := by
  go_enter Try.func25, Try.ntmps25
  go_wp2_with fail
  go_ret
  exact ⟨rfl, rfl⟩
end Go.Proofs.Ytgjbnampjgpmfaa

/- The contract of crc.Next. -/
namespace Go.Proofs.Ytgjbnampjgpmfaa
open Go.RowKit

/-- What Next tells: the data, how many bytes, what is wrong. -/
def nxF (l : List UInt8) : List UInt8 × Nat × Int :=
  if l.length < 4 then ([], 0, 10)
  else if 65535 < vle (l.take 4) then ([], 0, 2)
  else if l.length < vle (l.take 4) + 8 then ([], 0, 10)
  else if vle ((l.drop (4 + vle (l.take 4))).take 4) ≠ mor 0 (l.take (4 + vle (l.take 4))) then ([], 0, 20)
  else ((l.drop 4).take (vle (l.take 4)), vle (l.take 4) + 8, 0)
theorem reads_drop {w : World} {b off cap : Nat} {l : List UInt8} (c : Nat) (hc : c < l.length) (hcap : l.length ≤ cap) (hm : cap ≤ maxLen) (hb : b < w.heap.size) (h : ∀ j (h : j < l.length), w.cell? ⟨b, off + j, none⟩ = some (bc l[j])) : Reads w (.slice (some ⟨b, off + c, none⟩) (l.length - c) (cap - c)) (l.drop c) := by
  have hl : (l.drop c).length = l.length - c := by simp
  refine .inr ⟨b, off + c, cap - c, by rw [hl], by omega, by omega, by omega, hb, fun j hj => ?_⟩
  rw [Nat.add_assoc, h (c + j) (by omega)]
  simp
/-- A piece of it. -/
theorem reads_mid {w : World} {b off cap : Nat} {l : List UInt8} (c n : Nat) (hc : c + n ≤ l.length) (hcap : l.length ≤ cap) (hm : cap ≤ maxLen) (hb : b < w.heap.size) (h : ∀ j (h : j < l.length), w.cell? ⟨b, off + j, none⟩ = some (bc l[j])) : Reads w (.slice (some ⟨b, off + c, none⟩) n (cap - c)) ((l.drop c).take n) := by
  have hl : ((l.drop c).take n).length = n := by simp; omega
  rcases Nat.eq_zero_or_pos n with h0 | h0
  · subst h0; exact .inl ⟨rfl, _, _, rfl, fun h => by cases h⟩
  refine .inr ⟨b, off + c, cap - c, by rw [hl], by omega, by omega, by omega, hb, fun j hj => ?_⟩
  rw [Nat.add_assoc, h (c + j) (by omega)]
  simp
theorem vle_four_lt {l : List UInt8} (h : l.length ≤ 4) : vle l < 4294967296 := by
  have := vle_lt l
  have hp : 2 ^ (8 * l.length) ≤ 2 ^ 32 := Nat.pow_le_pow_right (by decide) (by omega)
  omega
theorem tup3 {v : Value} {x y z : Int} (h : x = y) : Ending.returned (.tuple #[v, .int .i64 x, .int .i64 z]) = .returned (.tuple #[v, .int .i64 y, .int .i64 z]) := by rw [h]
set_option maxRecDepth 100000 in
set_option maxHeartbeats 1000000 in
theorem next_short (a : Option Addr) (n cap : Nat) (hn : n < 4) (w : World) :
    Calls Try.prog 61 #[.slice a n cap] w fun e w' => e = .returned (.tuple #[.slice none 0 0, .int .i64 0, .int .i64 10]) ∧ w' = w := by
  have h1 : (n : Int) < 4 := by omega
  go_enter Try.func61, Try.ntmps61
  go_wp2_with fail
  go_ret3
  exact ⟨rfl, rfl⟩
set_option maxRecDepth 100000 in
set_option maxHeartbeats 1000000 in
theorem next_some (b off cap : Nat) (l : List UInt8) (h4 : 4 ≤ l.length) (hcap : l.length ≤ cap) (hm : cap ≤ maxLen) (w : World) (hb : b < w.heap.size)
    (hc : ∀ j (h : j < l.length), w.cell? ⟨b, off + j, none⟩ = some (bc l[j])) :
    Calls Try.prog 61 #[.slice (some ⟨b, off, none⟩) l.length cap] w fun e w' => ∃ v', e = .returned (.tuple #[v', .int .i64 ((nxF l).2.1 : Nat), .int .i64 (nxF l).2.2]) ∧ Own w' w.heap.size v' (nxF l).1 ∧ Below w.heap.size w w' := by
  have hR4 : Reads w (.slice (some ⟨b, off, none⟩) 4 cap) (l.take 4) := reads_take 4 h4 hcap hm hb hc
  have HC : Hid (∀ j (h : j < l.length), w.cell? ⟨b, off + j, none⟩ = some (bc l[j])) := hc
  have hlt4 : (l.take 4).length = 4 := by simp; omega
  have hv := vle_four_lt (l := l.take 4) (by omega)
  obtain ⟨n, HN⟩ := hid_ex (vle (l.take 4))
  have HX : Hid (nxF l = if l.length < 4 then ([], 0, 10)
  else if 65535 < n then ([], 0, 2)
  else if l.length < n + 8 then ([], 0, 10)
  else if vle ((l.drop (4 + n)).take 4) ≠ mor 0 (l.take (4 + n)) then ([], 0, 20)
  else ((l.drop 4).take n, n + 8, 0)) := by rw [HN.out]; rfl
  have hn : n < 4294967296 := by rw [HN.out]; exact hv
  have hmm : cap ≤ 9223372036854775807 := by unfold maxLen at hm; omega
  have HMX : Hid (cap ≤ maxLen) := hm
  clear hc hm hv
  have i1 : ¬ (l.length : Int) < 4 := by omega
  have i2 : (4 : Int) ≤ (cap : Int) := by omega
  go_enter Try.func61, Try.ntmps61
  go_wp2_with fail
  refine (number_any _ (l.take 4) (by omega) _ hR4).mono ?_
  rintro e w1 ⟨rfl, hw⟩
  subst w1
  rw [← HN.out]
  clear hR4 hlt4
  by_cases g1 : 65535 < n
  · have j1 : (65535 : Int) < (n : Int) := by omega
    have HY : Hid (nxF l = ([], 0, 2)) := by rw [HX.out, if_neg (by omega), if_pos g1]; rfl
    clear HX g1
    go_wp2_with fail
    go_ret3
    rw [HY.out]
    exact ⟨_, rfl, Own.nil _ _, Below.refl _ _⟩
  · have j1 : ¬ (65535 : Int) < (n : Int) := by omega
    by_cases g2 : l.length < n + 8
    · have j2 : (l.length : Int) < 4 + (n : Int) + 4 := by omega
      have HY : Hid (nxF l = ([], 0, 10)) := by rw [HX.out, if_neg (by omega), if_neg g1, if_pos g2]; rfl
      clear HX g1 g2
      go_wp2_with fail
      go_ret3
      rw [HY.out]
      exact ⟨_, rfl, Own.nil _ _, Below.refl _ _⟩
    · have j2 : ¬ (l.length : Int) < 4 + (n : Int) + 4 := by omega
      have j3 : 4 + (n : Int) + 4 ≤ (cap : Int) := by omega
      have j4 : 4 + (n : Int) ≤ (cap : Int) := by omega
      have HR1 : Hid (Reads w (.slice (some ⟨b, off + (4 + n), none⟩) 4 (cap - (4 + n))) ((l.drop (4 + n)).take 4)) := reads_mid (4 + n) 4 (by omega) hcap HMX.out hb HC.out
      have HR2 : Hid (Reads w (.slice (some ⟨b, off, none⟩) (4 + n) cap) (l.take (4 + n))) := reads_take (4 + n) (by omega) hcap HMX.out hb HC.out
      have HL4 : Hid (((l.drop (4 + n)).take 4).length ≤ 4) := by unfold Hid; simp; omega
      have j5 : ¬ (cap : Int) = 4 + (n : Int) := by omega
      clear i1 i2
      go_wp2_with fail
      go_quiet ((first | (go_at_call 64; exact Calls.quiet_of_same (number_any _ _ HL4.out _ (HR1.out.below (below_drewN (Below.refl _ _) _)))) | (go_at_call 46; exact Calls.quiet_of_same (sum_any _ _ _ (HR2.out.below (below_drewN (Below.refl _ _) _))))))
      have HBq : Hid (Below w.heap.size w (w.drewN nq)) := below_drewN (Below.refl _ _) nq
      clear HR1 HR2 HL4
      by_cases g3 : vle ((l.drop (4 + n)).take 4) = mor 0 (l.take (4 + n))
      · have HY : Hid (nxF l = ((l.drop 4).take n, n + 8, 0)) := by rw [HX.out, if_neg (by omega), if_neg g1, if_neg g2, if_neg (by simpa using g3)]; rfl
        have k1 : (((vle ((l.drop (4 + n)).take 4) : Nat) : Int) != ((mor 0 (l.take (4 + n)) : Nat) : Int)) = false := by simp [g3]
        obtain ⟨i0, hi, hz0, hz1, hz2⟩ := info_parts info5
        obtain ⟨w2, hrn, hown2, hg2⟩ := run_make_full (P := Try.prog) (w.drewN nq) w.heap.size 22 5 i0 (.int .u8 0) 1 Try.underlying22 hi hz0 hz1 .u32 .u32 n (by rw [hz2]; omega) (by unfold maxLen; omega) HBq.out.size
        have HB2 : Hid (Below w.heap.size w w2) := HBq.out.grown hg2 HBq.out.size (fun k hk => by cases hk)
        have hW : ∃ cur : List Value, Hid (w2.heap[w.heap.size]? = some (.cells cur.toArray 5 (0, 0))) ∧ cur.length = n := by
          obtain ⟨_, h | ⟨g, cp, cur, hv, hg, hh, _, _, hs, _⟩⟩ := hown2
          · simp at h
          · simp at hv
            obtain ⟨rfl, rfl⟩ := hv
            exact ⟨cur.toList, by unfold Hid; simpa using hh, by simpa using hs⟩
        obtain ⟨cur, HW, hcl⟩ := hW
        obtain ⟨cs, HCS⟩ := hid_ex (((l.drop 4).take n).map bc)
        have hcsl : cs.length = n := by rw [HCS.out]; simp; omega
        have HN2 : Hid (∀ j v, cs[j]? = some v → w2.cell? ((⟨b, off + 4, none⟩ : Addr).add j) = some v) := by
          have hr4 := reads_mid 4 n (by omega) hcap HMX.out hb HC.out
          have hr5 := hr4.below HB2.out
          rcases hr5 with ⟨hnil, _⟩ | ⟨b', off', cap', hv, _, _, _, _, hcc⟩
          · intro j v hj; rw [HCS.out, hnil] at hj; simp at hj
          · simp at hv
            obtain ⟨⟨rfl, rfl⟩, _, _⟩ := hv
            rw [HCS.out]; exact newsR hcc
        have HSP : Hid (splice cur 0 cs = cs) := by
          unfold Hid splice
          rw [List.take_zero, List.nil_append, Nat.zero_add, hcsl, ← hcl, List.drop_length, List.append_nil]
        have H1 : Hid (∀ v ∈ cs, v.oneCell' = true) := by unfold Hid; rw [HCS.out]; exact one_bc
        have k5 : (4 : Int) ≤ 4 + (n : Int) := by omega
        have k6 : ¬ (cap : Int) = 4 := by omega
        clear HX g1 g2 g3 hown2 hg2 HC j5
        obtain ⟨w3, hrc, HG3, HB3⟩ : ∃ w3, (Builtin.copy_ #[22, 22] 3 #[.slice (some ⟨w.heap.size, 0, none⟩) n n, .slice (some ⟨b, off + 4, none⟩) n (cap - 4)]).run Try.prog w2 = .ok (goInt cs.length) w3 ∧ Hid (w3.heap[w.heap.size]? = some (.cells (splice cur 0 cs).toArray 5 (0, 0))) ∧ Hid (Below w.heap.size w w3) := by
          refine ⟨_, run_copy_row (P := Try.prog) w2 22 22 3 5 w.heap.size 0 n n ⟨b, off + 4, none⟩ n (cap - 4) cur.toArray 5 cs Try.underlying22 (by rw [hi]; simp [hz1]) HW.out (by rw [hcsl]; simp) HN2.out (by simp; omega) H1.out, ?_, below_setRow HB2.out (Nat.le_refl _) _⟩
          unfold Hid splice
          rw [← List.append_assoc]
          exact setRow_heap w2 w.heap.size cur.toArray _ 5 (0, 0) HW.out
        go_wp2_with fail
        have HO3 : Own w3 w.heap.size (.slice (some ⟨w.heap.size, 0, none⟩) n n) ((l.drop 4).take n) := by
          have hlen : ((l.drop 4).take n).length = n := by simp; omega
          refine ⟨by simp, .inr ⟨w.heap.size, n, cs.toArray, by rw [hlen], Nat.le_refl _, ?_, by omega, by unfold maxLen; omega, by simp [hcsl], ?_⟩⟩
          · rw [← HSP.out]; exact HG3.out
          · rw [hlen, HCS.out, List.toList_toArray, Nat.mul_one]; exact List.take_of_length_le (by simp; omega)
        clear HG3 HW HSP H1 HN2 hrc
        go_wp2_with fail
        go_ret3
        rw [HY.out]
        exact ⟨_, tup3 (by show _ = ((n + 8 : Nat) : Int); omega), HO3, HB3.out⟩
      · have HY : Hid (nxF l = ([], 0, 20)) := by rw [HX.out, if_neg (by omega), if_neg g1, if_neg g2, if_pos g3]; rfl
        have k1 : (((vle ((l.drop (4 + n)).take 4) : Nat) : Int) != ((mor 0 (l.take (4 + n)) : Nat) : Int)) = true := by simp; omega
        clear HX g1 g2 g3
        go_wp2_with fail
        go_ret3
        rw [HY.out]
        exact ⟨_, rfl, Own.nil _ _, HBq.out⟩
theorem next_any_C (v : Value) (l : List UInt8) (w : World) (h : Reads w v l) :
    Calls Try.prog 61 #[v] w fun e w' => ∃ v', e = .returned (.tuple #[v', .int .i64 ((nxF l).2.1 : Nat), .int .i64 (nxF l).2.2]) ∧ Own w' w.heap.size v' (nxF l).1 ∧ Below w.heap.size w w' := by
  by_cases h4 : l.length < 4
  · obtain ⟨a, cap, rfl, _⟩ := h.form
    have e : nxF l = ([], 0, 10) := by rw [nxF, if_pos h4]
    rw [e]
    refine (next_short a l.length cap h4 w).mono ?_
    rintro e w' ⟨rfl, rfl⟩
    exact ⟨_, rfl, Own.nil _ _, Below.refl _ _⟩
  · rcases h with ⟨rfl, a, cap, rfl, _⟩ | ⟨b, off, cap, rfl, h2, h3, h4', h5, h6⟩
    · simp at h4
    · exact next_some b off cap l (by omega) h3 h4' w h5 h6
end Go.Proofs.Ytgjbnampjgpmfaa

/- The contract of crc's frames: what the function that is ranged over hands over. -/
namespace Go.Proofs.Ytgjbnampjgpmfaa
open Go.RowKit Go.Shelf
attribute [local go_sem] Oper.semAt_some

/-- The frames at bytes' front: the data of each, and how many bytes it takes. -/
def alF : Nat → List UInt8 → List (List UInt8 × Nat)
  | 0, _ => []
  | n + 1, l => if (nxF l).2.2 = 0 then ((nxF l).1, (nxF l).2.1) :: alF n (l.drop (nxF l).2.1) else []
def ksum (xs : List (List UInt8 × Nat)) : Nat := (xs.map (·.2)).sum
theorem nxF_ok {l : List UInt8} (h : (nxF l).2.2 = 0) : 8 ≤ (nxF l).2.1 ∧ (nxF l).2.1 ≤ l.length := by
  unfold nxF at h ⊢
  by_cases h1 : l.length < 4
  · rw [if_pos h1] at h; simp at h
  · rw [if_neg h1] at h ⊢
    by_cases h2 : 65535 < vle (l.take 4)
    · rw [if_pos h2] at h; simp at h
    · rw [if_neg h2] at h ⊢
      by_cases h3 : l.length < vle (l.take 4) + 8
      · rw [if_pos h3] at h; simp at h
      · rw [if_neg h3] at h ⊢
        by_cases h4 : vle ((l.drop (4 + vle (l.take 4))).take 4) ≠ mor 0 (l.take (4 + vle (l.take 4)))
        · rw [if_pos h4] at h; simp at h
        · rw [if_neg h4]; exact ⟨by simp, by simp; omega⟩
/-- What is handed over: a slice, what it reads, how many bytes. -/
structure Fr where
  v : Value
  D : List UInt8
  k : Nat
def Fr.encs (x : Fr) : Array Value := #[x.v, .int .i64 (x.k : Int)]
def Fr.p (x : Fr) : List UInt8 × Nat := (x.D, x.k)
def PreF (n₀ : Nat) (L : Nat) (pre : List Fr) (x : Fr) (W : World) : Prop := Own W n₀ x.v x.D ∧ x.k + ksum (pre.map Fr.p) ≤ L ∧ 8 * (pre.length + 1) ≤ L
def vlen : Value → Nat
  | .slice _ n _ => n
  | _ => 0
theorem ksum_snoc (xs : List (List UInt8 × Nat)) (x : List UInt8 × Nat) : ksum (xs ++ [x]) = ksum xs + x.2 := by simp [ksum]
set_option maxRecDepth 100000 in
set_option maxHeartbeats 2000000 in
theorem frames1_in (n : Nat) (_hn : 1 ≤ n) (l Bn : Nat) (v : Value) (bs : List UInt8) (hbl : bs.length ≤ 1000000) (w : World) (hR : Reads w v bs) (J : List Fr → World → Prop) (W : World) (hW : Below w.heap.size w W)
    (hJ : ∀ pre A B, J pre A → Below A.heap.size A B → J pre B)
    (hY : ∀ pre x W1, J pre W1 → PreF w.heap.size bs.length pre x W1 → w.heap.size ≤ W1.heap.size → YieldAt Fence.wide (n - 1) Try.prog l x.encs W1 fun e W' => e = .returned (.bool true) ∧ J (pre ++ [x]) W' ∧ Below w.heap.size W1 W')
    (hBn : W.cell? ⟨Bn, 0, none⟩ = some v) (h0 : J [] W) :
    CallsIn Fence.wide n Try.prog 60 #[.func (.yield l) #[] #[], .pointer (some ⟨Bn, 0, none⟩)] W fun e W' => (∃ v, e = .returned v) ∧ ∃ xs, xs.map Fr.p = alF (bs.length + 1) bs ∧ J xs W' := by
  refine callsIn_of_wp Try.func60 rfl trivial ?_ rfl
  simp only [Try.ntmps60, List.size_toArray, List.length_cons, List.length_nil, Nat.reduceAdd, Nat.reduceSub, Array.replicate_succ, Array.replicate_zero, List.push_toArray, List.append_toArray, List.nil_append, List.cons_append]
  obtain ⟨a, cap, rfl, _⟩ := hR.form
  have HJ : Hid (∀ pre A B, J pre A → Below A.heap.size A B → J pre B) := hJ
  have HY : Hid (∀ pre x W1, J pre W1 → PreF w.heap.size bs.length pre x W1 → w.heap.size ≤ W1.heap.size → YieldAt Fence.wide (n - 1) Try.prog l x.encs W1 fun e W' => e = .returned (.bool true) ∧ J (pre ++ [x]) W' ∧ Below w.heap.size W1 W') := hY
  have HR0 : Hid (Reads w (.slice a bs.length cap) bs) := hR
  have HW0 : Hid (Below w.heap.size w W) := hW
  clear hJ hY hR hW
  gi_wp2
  gi_loopw [3] (fun x wr => ∃ (m : Nat) (r : List UInt8) (pre : List Fr), r.length < m ∧ Hid (Reads w x r) ∧ Hid (alF (bs.length + 1) bs = pre.map Fr.p ++ alF m r) ∧ ksum (pre.map Fr.p) + r.length = bs.length ∧ 8 * pre.length ≤ ksum (pre.map Fr.p) ∧ J pre wr ∧ Hid (Below w.heap.size w wr)) (fun x _ => vlen x)
  case atStart => exact ⟨bs.length + 1, bs, [], by omega, HR0, rfl, by simp [ksum], by simp [ksum], h0, HW0⟩
  case round =>
    obtain ⟨m, r, pre, hm, HR, HA, hks, h8, hJp, HB⟩ := hrel
    obtain ⟨m, rfl⟩ : ∃ m', m = m' + 1 := ⟨m - 1, by omega⟩
    obtain ⟨ar, cr, rfl, _⟩ := HR.out.form
    have hcall := next_any_C _ r _ (HR.out.below HB.out)
    obtain ⟨q, hq⟩ := hid_ex (nxF r)
    rw [← hq.out] at hcall
    have HA2 : Hid (alF (bs.length + 1) bs = pre.map Fr.p ++ (if q.2.2 = 0 then (q.1, q.2.1) :: alF m (r.drop q.2.1) else [])) := by rw [HA.out, hq.out]; rfl
    have HOK : Hid (q.2.2 = 0 → 8 ≤ q.2.1 ∧ q.2.1 ≤ r.length) := by rw [hq.out]; exact nxF_ok
    obtain ⟨D, k, E⟩ := q
    simp only at hcall HA2 HOK
    have HC : Hid _ := hcall
    clear hcall hq HA
    by_cases hE : E = 0
    · subst hE
      obtain ⟨f1, f2⟩ := HOK.out rfl
      have HA3 : Hid (alF (bs.length + 1) bs = pre.map Fr.p ++ (D, k) :: alF m (r.drop k)) := by rw [HA2.out, if_pos rfl]; rfl
      clear HA2 HOK
      gi_wp2_with fail
      refine ⟨trivial, ?_⟩
      refine (callsIn_wide.2 HC.out).mono ?_
      rintro e w1 ⟨v1, rfl, HO1, hb1⟩
      have HB1 : Hid (Below w.heap.size w w1) := HB.out.trans (hb1.mono HB.out.size)
      have hJ1 : J pre w1 := HJ.out pre _ _ hJp hb1
      have hPre : PreF w.heap.size bs.length pre ⟨v1, D, k⟩ w1 := ⟨HO1.mono HB.out.size, by show k + _ ≤ _; omega, by omega⟩
      obtain ⟨fn, tmps, assign, body, hy, hRd⟩ := HY.out pre ⟨v1, D, k⟩ w1 hJ1 hPre HB1.out.size
      dsimp only [Fr.encs] at hy
      clear HC hPre HO1 hb1
      gi_wp2
      refine hRd.mono ?_
      rintro e W3 ⟨rfl, hJ3, hk3⟩
      have HB3 : Hid (Below w.heap.size w W3) := HB1.out.trans hk3
      clear hy hRd hk3 hJ1 HB1
      have HA4 : Hid (alF (bs.length + 1) bs = (pre ++ [(⟨v1, D, k⟩ : Fr)]).map Fr.p ++ alF m (r.drop k)) := by rw [HA3.out]; simp [Hid, Fr.p]
      have hks2 : ksum ((pre ++ [(⟨v1, D, k⟩ : Fr)]).map Fr.p) = ksum (pre.map Fr.p) + k := by rw [List.map_append]; exact ksum_snoc _ _
      have HK2 : Hid (ksum ((pre ++ [(⟨v1, D, k⟩ : Fr)]).map Fr.p) = ksum (pre.map Fr.p) + k) := hks2
      have hdl : (r.drop k).length = r.length - k := by simp
      have HDL : Hid ((r.drop k).length = r.length - k) := hdl
      obtain ⟨b, off, rfl, _, _⟩ := HR.out.at 0 (by omega)
      have hcap := HR.out.cap (by omega)
      have HDR : Hid _ := HR.out.drop (c := k) f2 b off rfl
      clear hks2 hdl HA3
      have i1 : (k : Int) ≤ (r.length : Int) := by omega
      have i2 : (k : Int) ≤ (cr : Int) := by omega
      by_cases hc : (cr : Int) = (k : Int)
      · have HZ : Hid (r.drop k = []) := HDR.out.2 (by omega)
        have hl0 : r.length - k = 0 := by omega
        have HRN : Hid (Reads w (.slice (some ⟨b, off, none⟩) (r.length - k) (cr - k)) (r.drop k)) := by
          rw [HZ.out, hl0]; exact reads_nil (fun h => by cases h)
        clear HDR hl0
        gi_wp2
        go_roundw
        case rel => exact ⟨m, r.drop k, _, by rw [HDL.out]; omega, HRN, HA4, by rw [HK2.out, HDL.out]; omega, by rw [HK2.out]; simp; omega, hJ3, HB3⟩
        case measure => simp [vlen]; omega
      · have HRN : Hid (Reads w (.slice (some ⟨b, off + k, none⟩) (r.length - k) (cr - k)) (r.drop k)) := HDR.out.1 (by omega)
        clear HDR
        gi_wp2
        go_roundw
        case rel => exact ⟨m, r.drop k, _, by rw [HDL.out]; omega, HRN, HA4, by rw [HK2.out, HDL.out]; omega, by rw [HK2.out]; simp; omega, hJ3, HB3⟩
        case measure => simp [vlen]; omega
    · have HA3 : Hid (alF (bs.length + 1) bs = pre.map Fr.p) := by rw [HA2.out, if_neg hE, List.append_nil]; rfl
      have jE : (E == 0) = false := by simpa using hE
      have jE2 : (E != 0) = true := by simpa using hE
      clear HA2 HOK hE
      gi_wp2_with fail
      refine ⟨trivial, ?_⟩
      refine (callsIn_wide.2 HC.out).mono ?_
      rintro e w1 ⟨v1, rfl, HO1, hb1⟩
      have hJ1 : J pre w1 := HJ.out pre _ _ hJp hb1
      clear HC HO1 hb1
      gi_wp2
      refine ⟨fun _ h => (by cases h), ?_⟩
      gi_wp2
      refine bodyPost_ret (results_none rfl _ _ _) rfl ?_
      exact ⟨⟨_, rfl⟩, pre, HA3.out.symm, hJ1⟩
end Go.Proofs.Ytgjbnampjgpmfaa

/- The contract of crc.All. -/
namespace Go.Proofs.Ytgjbnampjgpmfaa
open Go.RowKit Go.Shelf
attribute [local go_sem] Oper.semAt_some

theorem frames_in (n : Nat) (v : Value) (bs : List UInt8) (w : World) (hR : Reads w v bs) :
    CallsIn Fence.wide n Try.prog 51 #[v] w fun e w' => e = .returned (.func (.func 60) #[] #[.pointer (some ⟨w.heap.size, 0, none⟩)]) ∧ w' = w.alloc (.cells #[v] 22) := by
  obtain ⟨a, cap, rfl, _⟩ := hR.form
  refine callsIn_of_wp Try.func51 rfl trivial ?_ rfl
  simp only [Try.ntmps51, List.size_toArray, List.length_cons, List.length_nil, Nat.reduceAdd, Nat.reduceSub, Array.replicate_succ, Array.replicate_zero, List.push_toArray, List.append_toArray, List.nil_append, List.cons_append]
  gi_wp2
  go_ret
  exact ⟨rfl, rfl⟩
theorem infoL : (Try.prog.info? 22).map (fun i => (i.zero, i.size, i.bytes)) = some (some (.slice none 0 0), 1, 24) := by kernel_rfl
theorem Own.kcC {n : Nat} {A B : World} {base : Nat} {v : Value} {l : List UInt8} (h : Own A base v l) (hk : Kc n A B) : Own B base v l := by
  obtain ⟨h1, h2⟩ := h
  refine ⟨h1, ?_⟩
  rcases h2 with h2 | ⟨g, cap, cur, hv, hg, hw, r⟩
  · exact .inl h2
  · exact .inr ⟨g, cap, cur, hv, hg, hk.c _ _ _ _ hw, r⟩
theorem row_kc_C {n : Nat} {A B : World} {base : Nat} {e : TypeId} {size : Nat} {v : Value} {k : Nat} {xs : List Value} (h : A.ownsRow base e size v k xs) (hk : Kc n A B) : B.ownsRow base e size v k xs := by
  obtain ⟨h1, h2⟩ := h
  refine ⟨h1, ?_⟩
  rcases h2 with h2 | ⟨g, cap, cur, hv, hg, hw, r⟩
  · exact .inl h2
  · exact .inr ⟨g, cap, cur, hv, hg, hk.c _ _ _ _ hw, r⟩
theorem boxed_kc_C {n : Nat} {A B : World} {b : Nat} {t : TypeId} {v : Value} (h : Boxed A b t v) (hk : Kc n A B) : Boxed B b t v := hk.c _ _ _ _ h
/-- What All knows between two rounds. -/
def IAll (w : World) (L : Nat) (pre : List Fr) (W : World) : Prop :=
  (∃ v, Boxed W w.heap.size 74 v ∧ W.ownsRow w.heap.size 22 1 v pre.length (pre.map Fr.v)) ∧ Boxed W (w.heap.size + 1) 3 (.int .i64 (ksum (pre.map Fr.p) : Nat)) ∧ (∀ x ∈ pre, Own W w.heap.size x.v x.D) ∧ Below w.heap.size w W ∧ ksum (pre.map Fr.p) ≤ L
theorem iall_kc {w : World} {L : Nat} (pre : List Fr) (A B : World) (h : IAll w L pre A) (hk : Kc w.heap.size A B) : IAll w L pre B := by
  obtain ⟨⟨v, h1, h2⟩, h3, h4, h5, h6⟩ := h
  exact ⟨⟨v, boxed_kc_C h1 hk, row_kc_C h2 hk⟩, boxed_kc_C h3 hk, fun x hx => (h4 x hx).kcC hk, h5.trans hk.b, h6⟩
theorem own_set_C {W : World} {base B : Nat} {t : TypeId} {v u : Value} {l : List UInt8} (u' : Value) (h : Own W base v l) (hb : Boxed W B t u) (ht : t ≠ 5) : Own (W.setCell ⟨B, 0, none⟩ u') base v l :=
  World.ownsRow.kept h (grownBy_setCell' W B u') (.inr (hb.not_row ht h).symm)
theorem own_grown_C {W w1 : World} {base base' : Nat} {e : TypeId} {v z : Value} {l : List UInt8} {k : Nat} {xs : List Value} (tmp : Obj) (h : Own W base v l) (hr : W.ownsRow base' e 1 z k xs) (he : e ≠ 5) (hg : (W.alloc tmp).grownBy w1 z.ownBlock) : Own w1 base v l := by
  refine World.ownsRow.kept (h.alloc tmp) hg ?_
  rcases h.2 with ⟨rfl, _⟩ | ⟨g, cap, cur, rfl, _, hgb, _⟩
  · exact .inl rfl
  · refine .inr fun e' => ?_
    rcases hr.2 with ⟨rfl, _⟩ | ⟨g', cap', cur', rfl, _, hgb', _⟩
    · simp [Value.ownBlock] at e'
    · obtain rfl : g = g' := by simpa [Value.ownBlock] using e'
      rw [hgb] at hgb'
      simp at hgb'
      exact he hgb'.2.symm
set_option maxRecDepth 100000 in
set_option maxHeartbeats 2000000 in
theorem all_in (n : Nat) (hn : 5 ≤ n) (v : Value) (bs : List UInt8) (hbl : bs.length ≤ 1000000) (w : World) (hR : Reads w v bs) :
    CallsIn Fence.wide n Try.prog 32 #[v] w fun e W' => ∃ (vl : Value) (xs : List Fr), e = .returned (.tuple #[vl, .int .i64 (ksum (alF (bs.length + 1) bs) : Nat)]) ∧ xs.map Fr.p = alF (bs.length + 1) bs ∧ W'.ownsRow w.heap.size 22 1 vl xs.length (xs.map Fr.v) ∧ (∀ x ∈ xs, Own W' w.heap.size x.v x.D) ∧ Below w.heap.size w W' := by
  have h1 : 1 ≤ n := by omega
  obtain ⟨i0, hi, hz0, hz1, hz2⟩ := info_parts infoL
  obtain ⟨a, cap, rfl, _⟩ := hR.form
  refine callsIn_of_wp_marks Try.func32 rfl trivial ?_ rfl
  simp only [Try.ntmps32, List.size_toArray, List.length_cons, List.length_nil, Nat.reduceAdd, Nat.reduceSub, Array.replicate_succ, Array.replicate_zero, List.push_toArray, List.append_toArray, List.nil_append, List.cons_append]
  gi_wp2_with fail
  refine ⟨trivial, ?_⟩
  refine (frames_in _ _ bs _ ((hR.alloc _).alloc _)).mono ?_
  rintro e w' ⟨rfl, rfl⟩
  simp only [World.size_alloc]
  have bO := Boxed.new w 74 (.slice none 0 0)
  have bT := Boxed.new (w.alloc (.cells #[.slice none 0 0] 74)) 3 (.int .i64 0)
  have bN := Boxed.new ((w.alloc (.cells #[.slice none 0 0] 74)).alloc (.cells #[.int .i64 0] 3)) 22 (.slice a bs.length cap)
  rw [World.size_alloc] at bT
  rw [World.size_alloc, World.size_alloc] at bN
  have hB0 : Below w.heap.size w (((w.alloc (.cells #[.slice none 0 0] 74)).alloc (.cells #[.int .i64 0] 3)).alloc (.cells #[.slice a bs.length cap] 22)) := (((Below.refl _ w).alloc (Nat.le_refl _) _).alloc (by simp) _).alloc (by simp; omega) _
  have bO2 := (bO.alloc (.cells #[.int .i64 0] 3)).alloc (.cells #[.slice a bs.length cap] 22)
  have bT2 := bT.alloc (.cells #[.slice a bs.length cap] 22)
  gi_wp2_with fail
  refine wpIn_range_pre rfl h1 (gf := 60) (lb := #[.pointer (some ⟨w.heap.size + 1 + 1, 0, none⟩)]) rfl trivial (enters_of Try.func60 (by kernel_rfl) rfl) (encs := Fr.encs) (fun _ => rfl) (IAll w bs.length) (PreF w.heap.size bs.length) (fun xs => xs.map Fr.p = alF (bs.length + 1) bs) w.heap.size (by simp; omega)
    (fun l J W hK hn₀ hJ hY h0 => frames1_in (n - 1) (by omega) l (w.heap.size + 1 + 1) _ bs hbl w hR J W (hB0.trans hK.b) hJ hY (boxed_kc_C bN hK).cell h0)
    iall_kc (fun _ _ _ _ hp hk => ⟨hp.1.kcC hk, hp.2⟩) ⟨⟨_, bO2, World.ownsRow_nil _ _ _ _⟩, bT2, (fun _ h => by cases h), hB0, by simp [ksum]⟩
    (fun x => { tmps := #[.slice a bs.length cap, undef, .slice none 0 0, .int .i64 0, .pointer (some ⟨w.heap.size, 0, none⟩), .pointer (some ⟨w.heap.size + 1, 0, none⟩), x.v, .int .i64 (x.k : Int), .slice a bs.length cap, .func (.func 60) #[] #[.pointer (some ⟨w.heap.size + 1 + 1, 0, none⟩)], x.v, .int .i64 (x.k : Int), undef, undef, undef, undef, undef, undef, undef, undef, undef], defers := [] }) ?assign ?body ?done
  case assign =>
    intro l x W K hK
    dsimp only [Fr.encs]
    gi_wp2
    exact hK
  case body =>
    rintro l pre ⟨xv, D, k⟩ W ⟨⟨v', hv, hrow⟩, hT, hO, hB, hks⟩ ⟨hP1, hP2, hP3⟩ hnW
    dsimp only at hP1 hP2
    obtain ⟨av, cv, rfl, hDl⟩ := hP1.form
    have hc := hv.cell
    have hcT := hT.cell
    have hpl : pre.length ≤ 1000000 := by omega
    have hk0 : ksum ((pre ++ [(⟨.slice av D.length cv, D, k⟩ : Fr)]).map Fr.p) = ksum (pre.map Fr.p) + k := by rw [List.map_append]; exact ksum_snoc _ _
    gi_wp2_with (gi_at_builtin; refine wpListIn_append_own _ rfl _ _ 74 rfl w.heap.size 22 i0 (.slice none 0 0) 1 24 Try.underlying74 hi hz0 hz1 hz2 rfl (by decide) _ _ _ rfl (hrow.alloc _) ⟨W.heap.size, 0, none⟩ 1 1 [.slice av D.length cv] rfl rfl (cell_one_new _ _ _) (by simp [Value.oneCell']) (by unfold maxLen; omega) (by omega) (by have := hB.size; simp; omega) ?_; intro vq w1 hown' hgrow _; obtain ⟨g', cap', rfl⟩ := ownsRow_succ hown'; obtain ⟨hv1, hv2, hr2, hk2, hb2⟩ := hv.appended (by decide) hrow hB.size (Nat.le_refl _) hown' hgrow; have hc1 := hv1.cell; have hf1 := hv1.frozen; have hT1 : Boxed w1 (w.heap.size + 1) 3 _ := (hT.alloc _).kept hgrow (hT.not_row (by decide) hrow); have hT2 := hT1.kept (grownBy_setCell' w1 w.heap.size (.slice (some ⟨g', 0, none⟩) (pre.length + 1) cap')) (by simp); have hcT2 := hT2.cell; have hfT2 := hT2.frozen)
    have hv3 := hv2.kept (grownBy_setCell' _ (w.heap.size + 1) (.int .i64 ((ksum (pre.map Fr.p) : Int) + (k : Int)))) (by simp)
    have hT3 := hT2.set (.int .i64 ((ksum (pre.map Fr.p) : Int) + (k : Int)))
    have hr3 := hr2.kept (grownBy_setCell' _ (w.heap.size + 1) (.int .i64 ((ksum (pre.map Fr.p) : Int) + (k : Int)))) (.inr (hT2.not_row (by decide) hr2).symm)
    have hb3 := hb2.trans ((Below.refl w.heap.size _).setCell (p := ⟨w.heap.size + 1, 0, none⟩) (by simp) (.int .i64 ((ksum (pre.map Fr.p) : Int) + (k : Int))))
    have hO3 : ∀ (z : Value) (Z : List UInt8), Own W w.heap.size z Z → Own _ w.heap.size z Z := fun z Z hz => own_set_C (.int .i64 ((ksum (pre.map Fr.p) : Int) + (k : Int))) (own_set_C _ (own_grown_C _ hz hrow (by decide) hgrow) hv1 (by decide)) hT2 (by decide)
    refine ⟨hk2.trans (KeepsOthers.setCell _ _ _), hb3, ⟨_, hv3, by simpa using hr3⟩, ?_, ?_, hB.trans hb3, ?_⟩
    · rw [hk0]; exact hT3
    · intro z hz
      rcases List.mem_append.1 hz with hz | hz
      · exact hO3 _ _ (hO z hz)
      · simp at hz; subst hz; exact hO3 _ _ hP1
    · rw [hk0]; omega
  case done =>
    rintro D ys W hD hS ⟨⟨v', hv, hrow⟩, hT, hO, hB, hks⟩ hK
    have hc := hv.cell
    have hcT := hT.cell
    gi_wp2
    gi_region
    have hK2 : W.drew.heap[D]? = some (.deferred (some [])) := hK
    gi_wp2
    refine ⟨by simp, .inl ⟨_, _, rfl, run_takeDeferred hK2, ?_⟩⟩
    have hpk := Kc.put (n := w.heap.size) (.deferred none) hK2 rfl (by simp at hD; omega)
    have hdk : Kc w.heap.size W W.drew := ⟨(Below.refl _ _).drew, fun _ _ _ _ h => h⟩
    exact ⟨_, results_tmp2 rfl _ _ _, v', ys, rfl, hS, row_kc_C (row_kc_C hrow hdk) hpk, fun x hx => ((hO x hx).kcC hdk).kcC hpk, (hB.trans hdk.b).trans hpk.b⟩
end Go.Proofs.Ytgjbnampjgpmfaa
