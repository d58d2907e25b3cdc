/- Bytes that are copied into the middle of bytes of one's own. -/
import Derived.Test.YtdamlnpfpfpeeaaCP0
import Derived.Laws.IdiomCopy
namespace Go.Proofs.Ytdamlnpfpfpeeaa
open Go.RowKit

theorem copy_gen {w : World} {base g n off m : Nat} {L l : List UInt8} {v : Value} (ty : TypeId) (hO : Own w base (.slice (some ⟨g, 0, none⟩) n n) L) (hR : Reads w v l) (hl : off + l.length ≤ n) (hm : m = n - off) :
    ∃ w3, (Builtin.copy_ #[29, 29] ty #[.slice (some ⟨g, off, none⟩) m m, v]).run Try.prog w = .ok (goInt l.length) w3 ∧ Own w3 base (.slice (some ⟨g, 0, none⟩) n n) (L.take off ++ l ++ L.drop (off + l.length)) ∧ Hid (Below base w w3) ∧ Hid (w.grownBy w3 (some g)) := by
  subst hm
  obtain ⟨i0, hi, hz0, hz1, hz2⟩ := info_parts info5
  have hLn : L.length = n := by
    obtain ⟨a, cap, hv, _⟩ := hO.form
    simp at hv; omega
  have hOw := hO
  obtain ⟨h1, h2⟩ := hO
  rcases h2 with ⟨h2, _⟩ | ⟨g', cap, cur, hv, hg, hw, hn, hm, hs, ht⟩
  · simp at h2
  · simp at hv
    obtain ⟨rfl, hv2, rfl⟩ := hv
    rcases hR with ⟨rfl, a, cp, rfl, _⟩ | ⟨b, o, cp, rfl, r2, r3, r4, r5, r6⟩
    · refine ⟨w, ?_, by simpa using hOw, Below.refl _ _, ⟨rfl, rfl, rfl, Nat.le_refl _, fun _ _ _ => rfl⟩⟩
      exact run_copy_none w 29 29 ty 5 _ a (n - off) (n - off) 0 cp Try.underlying29 (by rw [hi]; simp [hz1]) (Nat.zero_min _)
    · have hcl : cur.toList = L.map bc := by
        rw [← ht, List.take_of_length_le (by simp; omega)]
      have hrun := run_copy_row (P := Try.prog) w 29 29 ty 5 g off (n - off) (n - off) ⟨b, o, none⟩ l.length cp cur 5 (l.map bc) Try.underlying29 (by rw [hi]; simp [hz1]) hw (by rw [List.length_map]; exact (Nat.min_eq_left (by omega)).symm) (newsR r6) (by simp; omega) one_bc
      rw [List.length_map] at hrun
      refine ⟨_, hrun, ?_, below_setRow (Below.refl _ _) hg _, ?_⟩
      · have hheap := setRow_heap w g cur (cur.toList.take off ++ l.map bc ++ cur.toList.drop (off + l.length)).toArray 5 (0, 0) hw
        have e1 : cur.toList.take off ++ l.map bc ++ cur.toList.drop (off + l.length) = (L.take off ++ l ++ L.drop (off + l.length)).map bc := by
          rw [hcl]; simp
        rw [e1] at hheap ⊢
        have hlen : (L.take off ++ l ++ L.drop (off + l.length)).length = n := by simp; omega
        refine ⟨by simp, .inr ⟨g, n, _, by rw [hlen], hg, hheap, by omega, hm, by rw [List.size_toArray, List.length_map]; omega, ?_⟩⟩
        rw [hlen, List.toList_toArray, Nat.mul_one]; exact List.take_of_length_le (by rw [List.length_map]; omega)
      · have hb := below_setRow (Below.refl 0 w) (Nat.zero_le g) (cur.toList.take off ++ l.map bc ++ cur.toList.drop (off + l.length)).toArray
        refine ⟨rfl, rfl, rfl, hb.size, fun k hk hne => ?_⟩
        show (w.heap.modify g _)[k]? = _
        rw [Array.getElem?_modify, if_neg (fun e => hne (by rw [e]))]
theorem copy_none {w : World} {d a : Option Addr} {m c c' : Nat} (ty : TypeId) : (Builtin.copy_ #[29, 29] ty #[.slice d m c, .slice a 0 c']).run Try.prog w = .ok (goInt 0) w := by
  obtain ⟨i0, hi, hz0, hz1, hz2⟩ := info_parts info5
  exact run_copy_none w 29 29 ty 5 d a m c 0 c' Try.underlying29 (by rw [hi]; simp [hz1]) (Nat.zero_min _)
end Go.Proofs.Ytdamlnpfpfpeeaa
