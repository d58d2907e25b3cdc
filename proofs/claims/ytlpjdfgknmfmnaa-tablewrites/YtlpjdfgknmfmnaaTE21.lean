/- CP1 BK5, joined. -/
import Derived.Test.YtlpjdfgknmfmnaaTE11
import Derived.Test.YtlpjdfgknmfmnaaTE17
import Derived.Laws.IdiomCopy
/- Bytes that are copied into the middle of bytes of one's own. -/
namespace Go.Proofs.Ytlpjdfgknmfmnaa
open Go.RowKit

theorem copy_gen {w : World} {base g n off m : Nat} {L l : List UInt8} {v : Value} (ty : TypeId) (hO : Own w base (.slice (some ⟨g, 0, none⟩) n n) L) (hR : Reads w v l) (hl : off + l.length ≤ n) (hm : m = n - off) :
    ∃ w3, (Builtin.copy_ #[25, 25] ty #[.slice (some ⟨g, off, none⟩) m m, v]).run Try.prog w = .ok (goInt l.length) w3 ∧ Own w3 base (.slice (some ⟨g, 0, none⟩) n n) (L.take off ++ l ++ L.drop (off + l.length)) ∧ Hid (Below base w w3) ∧ Hid (w.grownBy w3 (some g)) := by
  subst hm
  obtain ⟨i0, hi, hz0, hz1, hz2⟩ := info_parts info5
  have hLn : L.length = n := by
    obtain ⟨a, cap, hv, _⟩ := hO.form
    simp at hv; omega
  have hOw := hO
  obtain ⟨h1, h2⟩ := hO
  rcases h2 with ⟨h2, _⟩ | ⟨g', cap, cur, hv, hg, hw, hn, hm, hs, ht⟩
  · simp at h2
  · simp at hv
    obtain ⟨rfl, hv2, rfl⟩ := hv
    rcases hR with ⟨rfl, a, cp, rfl, _⟩ | ⟨b, o, cp, rfl, r2, r3, r4, r5, r6⟩
    · refine ⟨w, ?_, by simpa using hOw, Below.refl _ _, ⟨rfl, rfl, rfl, Nat.le_refl _, fun _ _ _ => rfl⟩⟩
      exact run_copy_none w 25 25 ty 5 _ a (n - off) (n - off) 0 cp Try.underlying25 (by rw [hi]; simp [hz1]) (Nat.zero_min _)
    · have hcl : cur.toList = L.map bc := by
        rw [← ht, List.take_of_length_le (by simp; omega)]
      have hrun := run_copy_row (P := Try.prog) w 25 25 ty 5 g off (n - off) (n - off) ⟨b, o, none⟩ l.length cp cur 5 (l.map bc) Try.underlying25 (by rw [hi]; simp [hz1]) hw (by rw [List.length_map]; exact (Nat.min_eq_left (by omega)).symm) (newsR r6) (by simp; omega) one_bc
      rw [List.length_map] at hrun
      refine ⟨_, hrun, ?_, below_setRow (Below.refl _ _) hg _, ?_⟩
      · have hheap := setRow_heap w g cur (cur.toList.take off ++ l.map bc ++ cur.toList.drop (off + l.length)).toArray 5 (0, 0) hw
        have e1 : cur.toList.take off ++ l.map bc ++ cur.toList.drop (off + l.length) = (L.take off ++ l ++ L.drop (off + l.length)).map bc := by
          rw [hcl]; simp
        rw [e1] at hheap ⊢
        have hlen : (L.take off ++ l ++ L.drop (off + l.length)).length = n := by simp; omega
        refine ⟨by simp, .inr ⟨g, n, _, by rw [hlen], hg, hheap, by omega, hm, by rw [List.size_toArray, List.length_map]; omega, ?_⟩⟩
        rw [hlen, List.toList_toArray, Nat.mul_one]; exact List.take_of_length_le (by rw [List.length_map]; omega)
      · have hb := below_setRow (Below.refl 0 w) (Nat.zero_le g) (cur.toList.take off ++ l.map bc ++ cur.toList.drop (off + l.length)).toArray
        refine ⟨rfl, rfl, rfl, hb.size, fun k hk hne => ?_⟩
        show (w.heap.modify g _)[k]? = _
        rw [Array.getElem?_modify, if_neg (fun e => hne (by rw [e]))]
theorem copy_none {w : World} {d a : Option Addr} {m c c' : Nat} (ty : TypeId) : (Builtin.copy_ #[25, 25] ty #[.slice d m c, .slice a 0 c']).run Try.prog w = .ok (goInt 0) w := by
  obtain ⟨i0, hi, hz0, hz1, hz2⟩ := info_parts info5
  exact run_copy_none w 25 25 ty 5 d a m c 0 c' Try.underlying25 (by rw [hi]; simp [hz1]) (Nat.zero_min _)
end Go.Proofs.Ytlpjdfgknmfmnaa

/- The contract of joined. -/
namespace Go.Proofs.Ytlpjdfgknmfmnaa
open Go.RowKit

set_option maxRecDepth 100000 in
set_option maxHeartbeats 1000000 in
theorem joined_any (va vb : Value) (a b : Ks) (hl : a.length + b.length ≤ 100000) (w : World) (ha : Reads w va a) (hb : Reads w vb b) :
    Calls Try.prog 102 #[va, vb] w fun e w' => ∃ v, e = .returned v ∧ Own w' w.heap.size v (a ++ b) ∧ Below w.heap.size w w' := by
  obtain ⟨i0, hi0, hz0, hz1, hz2⟩ := info_parts info5
  obtain ⟨n, hn⟩ : ∃ n : Nat, (a.length : Int) + (b.length : Int) = (n : Int) := ⟨a.length + b.length, by omega⟩
  have HN : Hid (n = a.length + b.length) := by unfold Hid; omega
  obtain ⟨w1, hrn, hown1, hg1⟩ := run_make_full (P := Try.prog) w w.heap.size 25 5 i0 (.int .u8 0) 1 Try.underlying25 hi0 hz0 hz1 .i64 .i64 n (by rw [hz2]; omega) (by unfold maxLen; omega) (Nat.le_refl _)
  rw [Nat.mul_one] at hown1
  have HO1 : Hid (Own w1 w.heap.size (.slice (some ⟨w.heap.size, 0, none⟩) n n) (List.replicate n 0)) := own_zeros hown1
  have HB1 : Hid (Below w.heap.size w w1) := (Below.refl _ _).grown hg1 (Nat.le_refl _) (fun k hk => by cases hk)
  clear hown1 hg1 hi0 hz0 hz1 hz2
  obtain ⟨w2, hcp, ho2, hb2, _⟩ := copy_gen (off := 0) (m := n) 3 HO1.out (ha.below HB1.out) (by have := HN.out; omega) (by omega)
  have HO2 : Hid (Own w2 w.heap.size (.slice (some ⟨w.heap.size, 0, none⟩) n n) (a ++ List.replicate b.length 0)) := by
    have e : (List.replicate n (0 : UInt8)).take 0 ++ a ++ (List.replicate n 0).drop (0 + a.length) = a ++ List.replicate b.length 0 := by
      rw [List.take_zero, List.nil_append, List.drop_replicate, HN.out]; congr 2; omega
    rw [e] at ho2; exact ho2
  have HB2 : Hid (Below w.heap.size w w2) := HB1.out.trans hb2.out
  have HRb : Hid (Reads w2 vb b) := hb.below HB2.out
  clear ho2 hb2 HO1 HB1
  obtain ⟨aa, ca, rfl, hma⟩ := ha.form
  obtain ⟨ab, cb, rfl, hmb⟩ := hb.form
  unfold maxLen at hma hmb
  clear ha hb
  unfold goInt at hcp
  rcases Nat.eq_zero_or_pos b.length with h0 | h0
  · have hb0 : b = [] := List.length_eq_zero_iff.1 h0
    subst hb0
    have hna : a.length = n := by have := HN.out; simp at this; omega
    have hc2 : ∀ d m c, (Builtin.copy_ #[25, 25] 3 #[.slice d m c, .slice ab 0 cb]).run Try.prog w2 = .ok (goInt 0) w2 := fun d m c => copy_none _
    unfold goInt at hc2
    simp only [List.length_nil] at *
    rw [hna] at hcp
    go_enter Try.func102, Try.ntmps102
    go_wp2_with fail
    go_ret
    refine ⟨_, rfl, ?_, HB2.out⟩
    have := HO2.out
    simpa using this
  · have hlt : a.length < n := by have := HN.out; omega
    obtain ⟨w3, hc2, ho3, hb3, _⟩ := copy_gen (off := a.length) (m := n - a.length) 3 HO2.out HRb.out (by have := HN.out; omega) rfl
    have HO3 : Hid (Own w3 w.heap.size (.slice (some ⟨w.heap.size, 0, none⟩) n n) (a ++ b)) := by
      have e : (a ++ List.replicate b.length (0 : UInt8)).take a.length ++ b ++ (a ++ List.replicate b.length 0).drop (a.length + b.length) = a ++ b := by
        rw [List.take_left, List.drop_eq_nil_of_le (by simp), List.append_nil]
      rw [e] at ho3; exact ho3
    have HB3 : Hid (Below w.heap.size w w3) := HB2.out.trans hb3.out
    unfold goInt at hc2
    clear ho3 hb3 HO2 HB2 HRb
    go_enter Try.func102, Try.ntmps102
    go_wp2_with fail
    go_ret
    exact ⟨_, rfl, HO3.out, HB3.out⟩
end Go.Proofs.Ytlpjdfgknmfmnaa
