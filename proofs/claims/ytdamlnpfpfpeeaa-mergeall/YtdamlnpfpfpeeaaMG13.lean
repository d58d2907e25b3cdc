/- The steps of the loop of All, in memory. -/
import Derived.Test.YtdamlnpfpfpeeaaMG12
namespace Go.Proofs.Ytdamlnpfpfpeeaa
open Go.RowKit

theorem cur7 {cur : Array Value} {vs : List Value} (hs : cur.size = vs.length) (h : ∀ i (hi : i < vs.length), cur[0 + i]? = some vs[i]) : cur = vs.toArray := by
  apply Array.ext
  · simpa using hs
  · intro i h1 h2
    have hi : i < vs.length := by simpa using h2
    have := h i hi
    rw [Nat.zero_add, Array.getElem?_eq_getElem h1] at this
    simpa using this
theorem al_tail {rs : List (List En)} {w w5 w6 w7 W : World} {hh h : Nat} {D T : List Tg} {t : Tg} {xs : List Ev} {al kv : Value} {b7 : Array Value} {a : Ag} {ok : Bool} (hs : seqF rs = D ++ t :: T) (he : AlE w.heap.size hh al xs (grpG (D ++ [t])) w5) (hlo : w.heap.size ≤ hh) (hb5 : Below w.heap.size w w5) (hz5 : hh ≤ w5.heap.size)
    (hb6 : Below w5.heap.size w5 w6) (hx6 : w6.heap[w5.heap.size]? = some (.cells b7 36)) (hf7 : Fr w.heap.size hh w6 w7) (hz7 : hh ≤ w7.heap.size) (hq7 : NxQ w.heap.size hh h T kv a ok w7) (hs7 : b7.size = 7) (hW : StW w7 W w5.heap.size 0 b7 36 (c7 ⟨kv, [], a⟩))
    (hal : ∀ k, al.ownBlock = some k → k < w5.heap.size) : AlI rs w hh h w5.heap.size (D ++ [t]) T xs al kv a ok W ∧ al.ownBlock ≠ some w5.heap.size := by
  have h7 : w7.heap[w5.heap.size]? = some (.cells b7 36) := (hf7.h _ hz5 (Array.getElem?_eq_some_iff.1 hx6).1).trans hx6
  have hu : ∀ (k : Nat) (cs : Array Value) (fr : Nat × Nat), w7.heap[k]? = some (Obj.cells cs 5 fr) → W.heap[k]? = some (Obj.cells cs 5 fr) := fun k cs fr q => (hW.o k (typ_ne q h7 (by decide))).trans q
  have he7 := (he.below hb6).fr hf7
  have hne : al.ownBlock ≠ some w5.heap.size := fun e => by have := hal _ e; omega
  refine ⟨⟨by rw [hs]; simp, ⟨?_, fun x hx => own_kp (he7.k x hx) hu, he7.m, he7.c⟩, hq7.under (fun k hk => hW.o k (by omega)) hu (hW.b 0 (Nat.zero_le _)).size, ?_, hz5, ((hb5.trans (hb6.mono hb5.size)).trans hf7.b).trans (hW.b _ (Nat.le_trans hlo hz5)), hlo, Nat.le_trans hz7 (hW.b 0 (Nat.zero_le _)).size⟩, hne⟩
  · obtain ⟨q1, q2⟩ := he7.r
    refine ⟨q1, ?_⟩
    rcases q2 with q2 | ⟨g, cap, cur, hv, hg, hw, r⟩
    · exact .inl q2
    · exact .inr ⟨g, cap, cur, hv, hg, (hW.o g (fun e => hne (by rw [hv, ← e]; rfl))).trans hw, r⟩
  · obtain ⟨cur', k1, k2, k3, k4⟩ := hW.c
    rw [k1, cur7 (vs := c7 ⟨kv, [], a⟩) (by rw [k2, hs7]; rfl) k4]
    rfl
theorem news7 (w : World) (vs : List Value) {t : TypeId} : ∀ j u, vs[j]? = some u → (w.alloc (.cells vs.toArray t)).cell? ((⟨w.heap.size, 0, none⟩ : Addr).add j) = some u := by
  intro j u hj
  have ea : (⟨w.heap.size, 0, none⟩ : Addr).add j = ⟨w.heap.size, j, none⟩ := by simp [Addr.add]; omega
  rw [ea, Go.Joins.cell_of_block (heap_alloc_new _ _)]
  simpa using hj
theorem one7 (x : Ev) (h : x.kv.oneCell' = true) : ∀ u ∈ c7 x, u.oneCell' = true := by
  intro u hu
  simp only [c7, List.mem_cons, List.not_mem_nil, or_false] at hu
  rcases hu with rfl | rfl | rfl | rfl | rfl | rfl | rfl
  · exact h
  all_goals rfl
theorem al_append {w wr w5 : World} {hh h b : Nat} {T : List Tg} {E : List En} {t : Tg} {xs : List Ev} {al v5 kv : Value} {tmp : Obj} {bx : Array Value} {n : Nat} (he : AlE w.heap.size hh al xs E wr) (hn : xs.length = n) (ho : Own wr w.heap.size kv t.1.1) (hc : CnOk t.2)
    (hown : w5.ownsRow hh 36 7 v5 (n + 1) (xs.flatMap c7 ++ c7 ⟨kv, t.1.1, t.2⟩)) (hg : (wr.alloc tmp).grownBy w5 al.ownBlock) (hz : hh ≤ wr.heap.size) (hlo : w.heap.size ≤ hh)
    (hnb : al.ownBlock ≠ some b) (hx : wr.heap[b]? = some (.cells bx 36)) (hs : HS wr w.heap.size hh h T) (hb : Below w.heap.size w wr) :
    AlE w.heap.size hh v5 (xs ++ [⟨kv, t.1.1, t.2⟩]) (E ++ [(t.1.1, t.2)]) w5 ∧ HS w5 w.heap.size hh h T ∧ w5.heap[b]? = some (.cells bx 36) ∧ Below w.heap.size w w5 ∧ hh ≤ w5.heap.size ∧ ∀ k, v5.ownBlock = some k → k < w5.heap.size := by
  have hsz : wr.heap.size ≤ w5.heap.size := by have := hg.size; simp at this; omega
  have hrl := World.ownsRow.lt he.r
  have hrt : ∀ k, al.ownBlock = some k → ∃ cur, wr.heap[k]? = some (.cells cur 36) := by
    intro k hk
    rcases he.r.2 with ⟨q, _⟩ | ⟨g0, c0, cur, q, _, hw, _⟩
    · rw [q] at hk; simp [Value.ownBlock] at hk
    · rw [q] at hk; simp [Value.ownBlock] at hk; subst hk; exact ⟨cur, hw⟩
  have hkeep : ∀ k, k < wr.heap.size → al.ownBlock ≠ some k → w5.heap[k]? = wr.heap[k]? := fun k hk hne => (hg.block k (by simp; omega) (Ne.symm hne)).trans (Below.heap_alloc _ _ _ hk)
  have hu : ∀ (k : Nat) (cs : Array Value) (fr : Nat × Nat), wr.heap[k]? = some (Obj.cells cs 5 fr) → w5.heap[k]? = some (Obj.cells cs 5 fr) := fun k cs fr q => by
    refine (hkeep k (Array.getElem?_eq_some_iff.1 q).1 (fun e => ?_)).trans q
    obtain ⟨cur, hc⟩ := hrt k e
    rw [q] at hc
    simp at hc
  refine ⟨⟨?_, fun x hx => ?_, ?_, fun x hx => ?_⟩, hs.under (fun k hk => hkeep k (by omega) (fun e => by have := (hrl k e).1; omega)) hu hsz, (hkeep b (Array.getElem?_eq_some_iff.1 hx).1 hnb).trans hx, ?_, Nat.le_trans hz hsz, fun k hk => (World.ownsRow.lt hown k hk).2⟩
  · rw [List.length_append, List.flatMap_append, hn]
    simpa using hown
  · rcases List.mem_append.1 hx with hx | hx
    · exact own_kp (he.k x hx) hu
    · obtain rfl : x = ⟨kv, t.1.1, t.2⟩ := by simpa using hx
      exact own_kp ho hu
  · rw [List.map_append, he.m]; rfl
  · rcases List.mem_append.1 hx with hx | hx
    · exact he.c x hx
    · obtain rfl : x = ⟨kv, t.1.1, t.2⟩ := by simpa using hx
      exact hc
  · exact hb.trans (((Below.refl _ _).alloc (Nat.le_trans hlo hz) tmp).grown hg (by simp; omega) (fun k hk => Nat.le_trans hlo (hrl k hk).1))
theorem stop_app {ops : Array Oper} {rest : List Oper} {op : Oper} {a : Act} {w : World} {Q : Exit → Act → World → Prop} (s x : Operand) (t : TypeId) (_ho : op.op = .call { callee := .builtin .append, args := #[s, x], argTypes := #[t, t] }) (h : Stop (wpList Try.prog ops Q (op :: rest) a w)) : wpList Try.prog ops Q (op :: rest) a w := h.out
theorem row_form {w : World} {base sz n : Nat} {e : TypeId} {v : Value} {xs : List Value} (h : w.ownsRow base e sz v n xs) : ∃ a cap, v = .slice a n cap := by
  rcases h.2 with ⟨h1, h2⟩ | ⟨g, cap, cur, hv, _⟩
  · exact ⟨none, 0, by rw [h1, h2]⟩
  · exact ⟨_, cap, hv⟩
theorem al_merge {w wr wm W : World} {hh h b g cap m : Nat} {T : List Tg} {E : List En} {t : Tg} {xs : List Ev} {cur bx : Array Value} (he : AlE w.heap.size hh (.slice (some ⟨g, 0, none⟩) (m + 1) cap) xs E wr) (hn : xs.length = m + 1) (hc : CnOk t.2) (hk : (xs[m]'(by omega)).k = t.1.1)
    (hm : Below wr.heap.size wr wm) (hcur : wm.heap[g]? = some (.cells cur 36)) (hW : StW wm W g (m * 7 + 1) cur 36 (a6 (mrg (xs[m]'(by omega)).a t.2))) (hlo : w.heap.size ≤ hh)
    (hnb : (Value.slice (some ⟨g, 0, none⟩) (m + 1) cap).ownBlock ≠ some b) (hx : wr.heap[b]? = some (.cells bx 36)) (hs : HS wr w.heap.size hh h T) (hb : Below w.heap.size w wr) :
    AlE w.heap.size hh (.slice (some ⟨g, 0, none⟩) (m + 1) cap) (xs.set m ⟨(xs[m]'(by omega)).kv, (xs[m]'(by omega)).k, mrg (xs[m]'(by omega)).a t.2⟩) (addG E t) W ∧ HS W w.heap.size hh h T ∧ W.heap[b]? = some (.cells bx 36) ∧ Below w.heap.size w W ∧ hh ≤ W.heap.size ∧ ∀ k, (Value.slice (some ⟨g, 0, none⟩) (m + 1) cap).ownBlock = some k → k < W.heap.size := by
  have hem := he.below hm
  have hsm := hs.below hm
  have hr := hem.r
  rw [hn] at hr
  have hgl := World.ownsRow.lt hr g rfl
  have hszW : wm.heap.size ≤ W.heap.size := (hW.b 0 (Nat.zero_le _)).size
  have hu : ∀ (k : Nat) (cs : Array Value) (fr : Nat × Nat), wm.heap[k]? = some (Obj.cells cs 5 fr) → W.heap[k]? = some (Obj.cells cs 5 fr) := fun k cs fr q => (hW.o k (typ_ne q hcur (by decide))).trans q
  have hset := row_setA hr hcur hW (by omega) hn
  have hmem : ∀ x ∈ xs.set m ⟨(xs[m]'(by omega)).kv, (xs[m]'(by omega)).k, mrg (xs[m]'(by omega)).a t.2⟩, x ∈ xs ∨ x = ⟨(xs[m]'(by omega)).kv, (xs[m]'(by omega)).k, mrg (xs[m]'(by omega)).a t.2⟩ := fun x hx => List.mem_or_eq_of_mem_set hx
  have hEl : E.length = m + 1 := by rw [← he.m]; simpa using hn
  have hEm : E[m]'(by omega) = evE (xs[m]'(by omega)) := by
    have : E[m]'(by omega) = (xs.map evE)[m]'(by simp; omega) := by simp only [he.m]
    rw [this]; simp
  refine ⟨⟨by rw [show (xs.set m ⟨(xs[m]'(by omega)).kv, (xs[m]'(by omega)).k, mrg (xs[m]'(by omega)).a t.2⟩).length = m + 1 by simp [hn]]; exact hset, fun x hx => ?_, ?_, fun x hx => ?_⟩, hsm.under (fun k hk => hW.o k (by have := hgl.1; omega)) hu hszW, ?_, ?_, Nat.le_trans hsm.z hszW, fun k hk => ?_⟩
  · rcases hmem x hx with hx | rfl
    · exact own_kp (hem.k x hx) hu
    · exact own_kp (hem.k (xs[m]'(by omega)) (List.getElem_mem _)) hu
  · have h1 : addG E t = E.set (E.length - 1) (t.1.1, mrg (E[E.length - 1]'(by omega)).2 t.2) := addG_same (by omega) (by
      have e1 : E.length - 1 = m := by omega
      simp only [e1, hEm]; exact hk)
    have e1 : E.length - 1 = m := by omega
    rw [h1]
    simp only [e1, hEm]
    rw [List.map_set, he.m, ← hk]
    rfl
  · rcases hmem x hx with hx | rfl
    · exact he.c x hx
    · exact mrg_cn (he.c (xs[m]'(by omega)) (List.getElem_mem _)) hc
  · have hbl := (Array.getElem?_eq_some_iff.1 hx).1
    refine (hW.o b (fun e => hnb (by rw [e]; rfl))).trans ((hm.block b hbl).trans hx)
  · exact (hb.trans (hm.mono hb.size)).trans (hW.b _ (Nat.le_trans hlo hgl.1))
  · simp [Value.ownBlock] at hk
    omega
end Go.Proofs.Ytdamlnpfpfpeeaa
