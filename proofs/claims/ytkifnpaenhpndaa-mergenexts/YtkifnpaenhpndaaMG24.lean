/- One more is counted. -/
import Derived.Test.YtkifnpaenhpndaaMG23
namespace Go.Proofs.Ytkifnpaenhpndaa
open Go.RowKit

theorem on_store {rs : List (List En)} {w wd W5 : World} {hh h g n : Nat} {D T : List Tg} {t : Tg} {lv fv kv : Value} {cur : Array Value} (hs : seqF rs = D ++ t :: T) (hn : n = t.1.2) (hB : Below w.heap.size w wd) (hQ : HS wd w.heap.size hh h T) (hL : LastO wd w.heap.size D lv fv) (hO : Own wd w.heap.size kv t.1.1)
    (hcur : wd.heap[g]? = some (.cells cur 3)) (hc2 : ∀ j, j < rs.length → cur[j]? = some (.int .i64 (cntD D j : Int))) (hW5 : StW wd W5 g n cur 3 [.int .i64 ((cntD D n : Int) + 1)]) (hz : w.heap.size ≤ hh ∧ hh ≤ g) :
    OnI rs w hh h g (D ++ [t]) T kv (.int .i64 (n : Int)) W5 ∧ LastO W5 w.heap.size D lv fv ∧ ∀ k, k ≠ g → W5.heap[k]? = wd.heap[k]? := by
  have hu5 : ∀ (k : Nat) (cs : Array Value) (fr : Nat × Nat), wd.heap[k]? = some (Obj.cells cs 5 fr) → W5.heap[k]? = some (Obj.cells cs 5 fr) := fun k cs fr q => (hW5.o k (typ_ne q hcur (by decide))).trans q
  have hO5 := own_kp hO hu5
  subst hn
  exact ⟨⟨by rw [hs]; simp, hQ.under (fun k hk => hW5.o k (by omega)) hu5 (hW5.b 0 (Nat.zero_le _)).size, AtM.stored hc2 hW5 (fun j _ => cntD_snoc D t j), LastO.snoc hO5, hB.trans (hW5.b _ (by omega)), hz⟩, hL.keep hu5, hW5.o⟩
theorem ord_last {rs : List (List En)} (h0 : rowsF rs = 0) {D T : List Tg} {t t' : Tg} (hs : seqF rs = (D ++ [t']) ++ t :: T) : ltK t'.1.1 t.1.1 ∨ (t'.1.1 = t.1.1 ∧ t'.1.2 < t.1.2) := by
  have h1 := seqF_pw h0
  rw [hs] at h1
  exact (List.pairwise_append.1 h1).2.2 t' (by simp) t (by simp)
theorem lastO_snoc {W : World} {lo : Nat} {D : List Tg} {t : Tg} {lv fv : Value} (h : LastO W lo (D ++ [t]) lv fv) : Own W lo lv t.1.1 ∧ fv = .int .i64 (t.1.2 : Int) := by
  unfold LastO at h
  rw [List.getLast?_append] at h
  exact h
theorem nil_or_snoc (D : List Tg) : D = [] ∨ ∃ D' t', D = D' ++ [t'] := by
  rcases List.eq_nil_or_concat D with h | ⟨D', t', h⟩
  · exact .inl h
  · exact .inr ⟨D', t', by rw [h, List.concat_eq_append]⟩
theorem lastO_nil {W : World} {lo : Nat} {lv fv : Value} (h : LastO W lo [] lv fv) : lv = .slice none 0 0 ∧ fv = .int .i64 (-1) := h
theorem LastO.below {A B : World} {lo : Nat} {D : List Tg} {lv fv : Value} (h : LastO A lo D lv fv) (hb : Below A.heap.size A B) : LastO B lo D lv fv := h.keep (fun k _ _ q => (hb.block k (Array.getElem?_eq_some_iff.1 q).1).trans q)
end Go.Proofs.Ytkifnpaenhpndaa
