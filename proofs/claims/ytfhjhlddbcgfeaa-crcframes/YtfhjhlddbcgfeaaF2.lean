/- The contract of crc's frames: what the function that is ranged over hands over. -/
import Derived.Test.YtfhjhlddbcgfeaaF1
import Derived.Test.YtfhjhlddbcgfeaaV5
import Derived.Test.YtfhjhlddbcgfeaaRT
import Derived.RangeFuncNested
import Derived.RangeFuncBound
import Derived.RangeFuncCalls
import Derived.Shelf.Abstract
import Derived.Shelf.RegionOpen
import Derived.WalkKit
import Derived.OwnWalkIn
import Derived.TacticsInMore
import Derived.LoopNIn
import Derived.LoopIn
namespace Go.Proofs.Ytfhjhlddbcgfeaa
open Go.RowKit Go.Shelf
attribute [local go_sem] Oper.semAt_some

/-- The frames at bytes' front: the data of each, and how many bytes it takes. -/
def alF : Nat → List UInt8 → List (List UInt8 × Nat)
  | 0, _ => []
  | n + 1, l => if (nxF l).2.2 = 0 then ((nxF l).1, (nxF l).2.1) :: alF n (l.drop (nxF l).2.1) else []
def ksum (xs : List (List UInt8 × Nat)) : Nat := (xs.map (·.2)).sum
theorem nxF_ok {l : List UInt8} (h : (nxF l).2.2 = 0) : 8 ≤ (nxF l).2.1 ∧ (nxF l).2.1 ≤ l.length := by
  unfold nxF at h ⊢
  by_cases h1 : l.length < 4
  · rw [if_pos h1] at h; simp at h
  · rw [if_neg h1] at h ⊢
    by_cases h2 : 65535 < vle (l.take 4)
    · rw [if_pos h2] at h; simp at h
    · rw [if_neg h2] at h ⊢
      by_cases h3 : l.length < vle (l.take 4) + 8
      · rw [if_pos h3] at h; simp at h
      · rw [if_neg h3] at h ⊢
        by_cases h4 : vle ((l.drop (4 + vle (l.take 4))).take 4) ≠ mor 0 (l.take (4 + vle (l.take 4)))
        · rw [if_pos h4] at h; simp at h
        · rw [if_neg h4]; exact ⟨by simp, by simp; omega⟩
/-- What is handed over: a slice, what it reads, how many bytes. -/
structure Fr where
  v : Value
  D : List UInt8
  k : Nat
def Fr.encs (x : Fr) : Array Value := #[x.v, .int .i64 (x.k : Int)]
def Fr.p (x : Fr) : List UInt8 × Nat := (x.D, x.k)
def PreF (n₀ : Nat) (L : Nat) (pre : List Fr) (x : Fr) (W : World) : Prop := Own W n₀ x.v x.D ∧ x.k + ksum (pre.map Fr.p) ≤ L ∧ 8 * (pre.length + 1) ≤ L
def vlen : Value → Nat
  | .slice _ n _ => n
  | _ => 0
theorem ksum_snoc (xs : List (List UInt8 × Nat)) (x : List UInt8 × Nat) : ksum (xs ++ [x]) = ksum xs + x.2 := by simp [ksum]
set_option maxRecDepth 100000 in
set_option maxHeartbeats 2000000 in
theorem frames1_in (n : Nat) (_hn : 1 ≤ n) (l Bn : Nat) (v : Value) (bs : List UInt8) (hbl : bs.length ≤ 1000000) (w : World) (hR : Reads w v bs) (J : List Fr → World → Prop) (W : World) (hW : Below w.heap.size w W)
    (hJ : ∀ pre A B, J pre A → Below A.heap.size A B → J pre B)
    (hY : ∀ pre x W1, J pre W1 → PreF w.heap.size bs.length pre x W1 → w.heap.size ≤ W1.heap.size → YieldAt Fence.wide (n - 1) Try.prog l x.encs W1 fun e W' => e = .returned (.bool true) ∧ J (pre ++ [x]) W' ∧ Below w.heap.size W1 W')
    (hBn : W.cell? ⟨Bn, 0, none⟩ = some v) (h0 : J [] W) :
    CallsIn Fence.wide n Try.prog 28 #[.func (.yield l) #[] #[], .pointer (some ⟨Bn, 0, none⟩)] W fun e W' => (∃ v, e = .returned v) ∧ ∃ xs, xs.map Fr.p = alF (bs.length + 1) bs ∧ J xs W' := by
  refine callsIn_of_wp Try.func28 rfl trivial ?_ rfl
  simp only [Try.ntmps28, List.size_toArray, List.length_cons, List.length_nil, Nat.reduceAdd, Nat.reduceSub, Array.replicate_succ, Array.replicate_zero, List.push_toArray, List.append_toArray, List.nil_append, List.cons_append]
  obtain ⟨a, cap, rfl, _⟩ := hR.form
  have HJ : Hid (∀ pre A B, J pre A → Below A.heap.size A B → J pre B) := hJ
  have HY : Hid (∀ pre x W1, J pre W1 → PreF w.heap.size bs.length pre x W1 → w.heap.size ≤ W1.heap.size → YieldAt Fence.wide (n - 1) Try.prog l x.encs W1 fun e W' => e = .returned (.bool true) ∧ J (pre ++ [x]) W' ∧ Below w.heap.size W1 W') := hY
  have HR0 : Hid (Reads w (.slice a bs.length cap) bs) := hR
  have HW0 : Hid (Below w.heap.size w W) := hW
  clear hJ hY hR hW
  gi_wp2
  gi_loopw [3] (fun x wr => ∃ (m : Nat) (r : List UInt8) (pre : List Fr), r.length < m ∧ Hid (Reads w x r) ∧ Hid (alF (bs.length + 1) bs = pre.map Fr.p ++ alF m r) ∧ ksum (pre.map Fr.p) + r.length = bs.length ∧ 8 * pre.length ≤ ksum (pre.map Fr.p) ∧ J pre wr ∧ Hid (Below w.heap.size w wr)) (fun x _ => vlen x)
  case atStart => exact ⟨bs.length + 1, bs, [], by omega, HR0, rfl, by simp [ksum], by simp [ksum], h0, HW0⟩
  case round =>
    obtain ⟨m, r, pre, hm, HR, HA, hks, h8, hJp, HB⟩ := hrel
    obtain ⟨m, rfl⟩ : ∃ m', m = m' + 1 := ⟨m - 1, by omega⟩
    obtain ⟨ar, cr, rfl, _⟩ := HR.out.form
    have hcall := next_any _ r _ (HR.out.below HB.out)
    obtain ⟨q, hq⟩ := hid_ex (nxF r)
    rw [← hq.out] at hcall
    have HA2 : Hid (alF (bs.length + 1) bs = pre.map Fr.p ++ (if q.2.2 = 0 then (q.1, q.2.1) :: alF m (r.drop q.2.1) else [])) := by rw [HA.out, hq.out]; rfl
    have HOK : Hid (q.2.2 = 0 → 8 ≤ q.2.1 ∧ q.2.1 ≤ r.length) := by rw [hq.out]; exact nxF_ok
    obtain ⟨D, k, E⟩ := q
    simp only at hcall HA2 HOK
    have HC : Hid _ := hcall
    clear hcall hq HA
    by_cases hE : E = 0
    · subst hE
      obtain ⟨f1, f2⟩ := HOK.out rfl
      have HA3 : Hid (alF (bs.length + 1) bs = pre.map Fr.p ++ (D, k) :: alF m (r.drop k)) := by rw [HA2.out, if_pos rfl]; rfl
      clear HA2 HOK
      gi_wp2_with fail
      refine ⟨trivial, ?_⟩
      refine (callsIn_wide.2 HC.out).mono ?_
      rintro e w1 ⟨v1, rfl, HO1, hb1⟩
      have HB1 : Hid (Below w.heap.size w w1) := HB.out.trans (hb1.mono HB.out.size)
      have hJ1 : J pre w1 := HJ.out pre _ _ hJp hb1
      have hPre : PreF w.heap.size bs.length pre ⟨v1, D, k⟩ w1 := ⟨HO1.mono HB.out.size, by show k + _ ≤ _; omega, by omega⟩
      obtain ⟨fn, tmps, assign, body, hy, hRd⟩ := HY.out pre ⟨v1, D, k⟩ w1 hJ1 hPre HB1.out.size
      dsimp only [Fr.encs] at hy
      clear HC hPre HO1 hb1
      gi_wp2
      refine hRd.mono ?_
      rintro e W3 ⟨rfl, hJ3, hk3⟩
      have HB3 : Hid (Below w.heap.size w W3) := HB1.out.trans hk3
      clear hy hRd hk3 hJ1 HB1
      have HA4 : Hid (alF (bs.length + 1) bs = (pre ++ [(⟨v1, D, k⟩ : Fr)]).map Fr.p ++ alF m (r.drop k)) := by rw [HA3.out]; simp [Hid, Fr.p]
      have hks2 : ksum ((pre ++ [(⟨v1, D, k⟩ : Fr)]).map Fr.p) = ksum (pre.map Fr.p) + k := by rw [List.map_append]; exact ksum_snoc _ _
      have HK2 : Hid (ksum ((pre ++ [(⟨v1, D, k⟩ : Fr)]).map Fr.p) = ksum (pre.map Fr.p) + k) := hks2
      have hdl : (r.drop k).length = r.length - k := by simp
      have HDL : Hid ((r.drop k).length = r.length - k) := hdl
      obtain ⟨b, off, rfl, _, _⟩ := HR.out.at 0 (by omega)
      have hcap := HR.out.cap (by omega)
      have HDR : Hid _ := HR.out.drop (c := k) f2 b off rfl
      clear hks2 hdl HA3
      have i1 : (k : Int) ≤ (r.length : Int) := by omega
      have i2 : (k : Int) ≤ (cr : Int) := by omega
      by_cases hc : (cr : Int) = (k : Int)
      · have HZ : Hid (r.drop k = []) := HDR.out.2 (by omega)
        have hl0 : r.length - k = 0 := by omega
        have HRN : Hid (Reads w (.slice (some ⟨b, off, none⟩) (r.length - k) (cr - k)) (r.drop k)) := by
          rw [HZ.out, hl0]; exact reads_nil (fun h => by cases h)
        clear HDR hl0
        gi_wp2
        go_roundw
        case rel => exact ⟨m, r.drop k, _, by rw [HDL.out]; omega, HRN, HA4, by rw [HK2.out, HDL.out]; omega, by rw [HK2.out]; simp; omega, hJ3, HB3⟩
        case measure => simp [vlen]; omega
      · have HRN : Hid (Reads w (.slice (some ⟨b, off + k, none⟩) (r.length - k) (cr - k)) (r.drop k)) := HDR.out.1 (by omega)
        clear HDR
        gi_wp2
        go_roundw
        case rel => exact ⟨m, r.drop k, _, by rw [HDL.out]; omega, HRN, HA4, by rw [HK2.out, HDL.out]; omega, by rw [HK2.out]; simp; omega, hJ3, HB3⟩
        case measure => simp [vlen]; omega
    · have HA3 : Hid (alF (bs.length + 1) bs = pre.map Fr.p) := by rw [HA2.out, if_neg hE, List.append_nil]; rfl
      have jE : (E == 0) = false := by simpa using hE
      have jE2 : (E != 0) = true := by simpa using hE
      clear HA2 HOK hE
      gi_wp2_with fail
      refine ⟨trivial, ?_⟩
      refine (callsIn_wide.2 HC.out).mono ?_
      rintro e w1 ⟨v1, rfl, HO1, hb1⟩
      have hJ1 : J pre w1 := HJ.out pre _ _ hJp hb1
      clear HC HO1 hb1
      gi_wp2
      refine ⟨fun _ h => (by cases h), ?_⟩
      gi_wp2
      refine bodyPost_ret (results_none rfl _ _ _) rfl ?_
      exact ⟨⟨_, rfl⟩, pre, HA3.out.symm, hJ1⟩
end Go.Proofs.Ytfhjhlddbcgfeaa
