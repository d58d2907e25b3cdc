/- What is known of a key, in memory: a box that is written. -/
import Derived.Test.YtefhihollifbhabMG19
import Derived.Test.YtefhihollifbhabMG13
namespace Go.Proofs.Ytefhihollifbhab
open Go.RowKit

theorem knE_snoc {M : List En} {m : Nat} (hm : m < M.length) (s : Ag) (k : Ks) : knE s (M.take (m + 1)) k = if M[m].1 = k then mrg (knE s (M.take m) k) M[m].2 else knE s (M.take m) k := by
  unfold knE
  rw [List.take_succ_eq_append_getElem hm, List.foldl_append]; rfl
theorem hasE_snoc {M : List En} {m : Nat} (hm : m < M.length) (k : Ks) : hasE (M.take (m + 1)) k = (hasE (M.take m) k || decide (M[m].1 = k)) := by
  unfold hasE
  rw [List.take_succ_eq_append_getElem hm, List.any_append]; simp
theorem knR_snoc {rs : List (List En)} {m : Nat} (hm : m < rs.length) (s : Ag) (k : Ks) : knR s (rs.take (m + 1)) k = knE (knR s (rs.take m) k) rs[m] k := by
  unfold knR
  rw [List.take_succ_eq_append_getElem hm, List.foldl_append]; rfl
theorem hasR_snoc {rs : List (List En)} {m : Nat} (hm : m < rs.length) (k : Ks) : hasR (rs.take (m + 1)) k = (hasR (rs.take m) k || hasE rs[m] k) := by
  unfold hasR
  rw [List.take_succ_eq_append_getElem hm, List.any_append]; simp
theorem knE_cn : ∀ (M : List En) (s : Ag) (k : Ks), CnOk s → (∀ x ∈ M, CnOk x.2) → CnOk (knE s M k)
  | [], _, _, h, _ => h
  | x :: M, s, k, h, hM => by
    unfold knE
    rw [List.foldl_cons]
    refine knE_cn M _ k ?_ (fun y hy => hM y (List.mem_cons_of_mem _ hy))
    split
    · exact mrg_cn h (hM x (List.mem_cons_self ..))
    · exact h
theorem knR_cn : ∀ (rs : List (List En)) (s : Ag) (k : Ks), CnOk s → (∀ r ∈ rs, ∀ x ∈ r, CnOk x.2) → CnOk (knR s rs k)
  | [], _, _, h, _ => h
  | r :: rs, s, k, h, hM => by
    unfold knR
    rw [List.foldl_cons]
    exact knR_cn rs _ k (knE_cn r s k h (hM r (List.mem_cons_self ..))) (fun y hy => hM y (List.mem_cons_of_mem _ hy))
theorem agZ_cn : CnOk agZ := ⟨by decide, by decide⟩
/-- A box holds what is known. -/
structure KB (w2 : World) (b : Nat) (s : Ag) (wr : World) : Prop where
  u : Below b w2 wr
  x : wr.heap[b]? = some (.cells (a6 s).toArray 34)
theorem KB.lt {w2 wr : World} {b : Nat} {s : Ag} (h : KB w2 b s wr) : b < wr.heap.size := (Array.getElem?_eq_some_iff.1 h.x).1
theorem KB.below {w2 wr w' : World} {b : Nat} {s : Ag} (h : KB w2 b s wr) (hb : Below wr.heap.size wr w') : KB w2 b s w' := ⟨h.u.trans (hb.mono (Nat.le_of_lt h.lt)), (hb.block b h.lt).trans h.x⟩
theorem KB.store {w2 wr W : World} {b : Nat} {s s' : Ag} (h : KB w2 b s wr) (hW : StW wr W b 0 (a6 s).toArray 34 (a6 s')) : KB w2 b s' W := by
  refine ⟨h.u.trans (hW.b b (Nat.le_refl _)), ?_⟩
  obtain ⟨cur', k1, k2, k3, k4⟩ := hW.c
  rw [k1, cur7 (vs := a6 s') (by rw [k2]; rfl) k4]
theorem KB.new (w2 : World) : KB w2 w2.heap.size agZ (w2.alloc (.cells (a6 agZ).toArray 34)) := ⟨(Below.refl _ _).alloc (Nat.le_refl _) _, heap_alloc_new _ _⟩
end Go.Proofs.Ytefhihollifbhab
