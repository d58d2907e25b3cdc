/- Bytes that are copied into bytes of one's own; bytes just made. -/
import Derived.Test.YtijablmejjepaaaC0
import Derived.Laws.CopyOwn
import Derived.Laws.OwnMore
namespace Go.Proofs.Ytijablmejjepaaa
open Go.RowKit

theorem copy_own {w : World} {base g n off : Nat} {L l : List UInt8} {v : Value} (ty : TypeId) (hO : Own w base (.slice (some ⟨g, 0, none⟩) n n) L) (hR : Reads w v l) (h0 : 0 < l.length) (hl : off + l.length = n) :
    ∃ w3, (Builtin.copy_ #[31, 31] ty #[.slice (some ⟨g, off, none⟩) (n - off) (n - off), v]).run Try.prog w = .ok (goInt l.length) w3 ∧ Own w3 base (.slice (some ⟨g, 0, none⟩) n n) (L.take off ++ l) ∧ Hid (Below base w w3) ∧ Hid (w.grownBy w3 (some g)) := by
  obtain ⟨i0, hi, hz0, hz1, hz2⟩ := info_parts info5
  have hLn : L.length = n := by
    obtain ⟨a, cap, hv, _⟩ := hO.form
    simp at hv; omega
  have hOw := hO
  obtain ⟨h1, h2⟩ := hO
  rcases h2 with ⟨h2, _⟩ | ⟨g', cap, cur, hv, hg, hw, hn, hm, hs, ht⟩
  · simp at h2
  · simp at hv
    obtain ⟨rfl, hv2, rfl⟩ := hv
    rcases hR with ⟨rfl, _⟩ | ⟨b, o, cp, rfl, r2, r3, r4, r5, r6⟩
    · simp at h0
    · have hcl : cur.toList = L.map bc := by
        rw [← ht, List.take_of_length_le (by simp; omega)]
      have hrun := run_copy_row (P := Try.prog) w 31 31 ty 5 g off (n - off) (n - off) ⟨b, o, none⟩ l.length cp cur 5 (l.map bc) Try.underlying31 (by rw [hi]; simp [hz1]) hw (by rw [List.length_map]; exact (Nat.min_eq_left (by omega)).symm) (newsR r6) (by simp; omega) one_bc
      rw [List.length_map] at hrun
      refine ⟨_, hrun, ?_, below_setRow (Below.refl _ _) hg _, ?_⟩
      · have hheap := setRow_heap w g cur (cur.toList.take off ++ l.map bc ++ cur.toList.drop (off + l.length)).toArray 5 (0, 0) hw
        have e1 : cur.toList.take off ++ l.map bc ++ cur.toList.drop (off + l.length) = (L.take off ++ l).map bc := by
          rw [hcl, hl, List.drop_of_length_le (by simp; omega), List.append_nil, List.map_append, List.map_take]
        rw [e1] at hheap ⊢
        have hlen : (L.take off ++ l).length = n := by simp; omega
        refine ⟨by simp, .inr ⟨g, n, _, by rw [hlen], hg, hheap, by omega, hm, by simp; omega, ?_⟩⟩
        rw [hlen, List.toList_toArray, Nat.mul_one]; exact List.take_of_length_le (by rw [List.length_map]; omega)
      · have hb := below_setRow (Below.refl 0 w) (Nat.zero_le g) (cur.toList.take off ++ l.map bc ++ cur.toList.drop (off + l.length)).toArray
        refine ⟨rfl, rfl, rfl, hb.size, fun k hk hne => ?_⟩
        show (w.heap.modify g _)[k]? = _
        rw [Array.getElem?_modify, if_neg (fun e => hne (by rw [e]))]
/-- The same, at one operation. -/
theorem wp_copy {w : World} {o : Oper} {a : Act} {K : Act → World → Prop} {Q : Exit → Act → World → Prop} (d s : Operand)
    (ho : o.op = .call { callee := .builtin .copy, args := #[d, s], argTypes := #[31, 31] }) (base g n off m : Nat) (L l : List UInt8) (v : Value) (hm : n - off = m)
    (hd : a.eval d = .slice (some ⟨g, off, none⟩) m m) (hs : a.eval s = v) (hO : Own w base (.slice (some ⟨g, 0, none⟩) n n) L) (hR : Reads w v l) (h0 : 0 < l.length) (hl : off + l.length = n)
    (h : ∀ w', Own w' base (.slice (some ⟨g, 0, none⟩) n n) (L.take off ++ l) → Hid (Below base w w') → Hid (w.grownBy w' (some g)) → K (a.put o.dst (goInt l.length)) w') : o.wp Try.prog a w K Q := by
  subst hm
  obtain ⟨w', hrun, h1, h2, h3⟩ := copy_own (w := w) (off := off) o.type hO hR h0 hl
  unfold Oper.wp
  simp [execOp, ho, resolve, invoke, builtin, hd, hs, hrun, Result.andThen]
  exact h w' h1 h2 h3
theorem own_zeros {w2 : World} {base g n cap : Nat} (h : w2.ownsRow base 5 1 (.slice (some ⟨g, 0, none⟩) n cap) n (madeCells (Value.int .u8 0).cells n).toList) : Own w2 base (.slice (some ⟨g, 0, none⟩) n cap) (List.replicate n 0) := by
  have e0 : (Value.int .u8 0).cells = #[.int .u8 0] := rfl
  rw [e0, toList_madeCells_one] at h
  unfold Own; simpa [bc] using h
end Go.Proofs.Ytijablmejjepaaa
