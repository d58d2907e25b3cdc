/- CP1 MG9 MG10 MG11 MG17, joined. -/
import Derived.Test.YtoenijflijfogaaGreatRC4
import Derived.Test.YtoenijflijfogaaGreatRC7
import Derived.Laws.IdiomCopy
import Derived.Laws.AppendOwn
/- Bytes that are copied into the middle of bytes of one's own. -/
namespace Go.Proofs.YtoenijflijfogaaGreat
open Go.RowKit

end Go.Proofs.YtoenijflijfogaaGreat

/- The contract of copied. -/
namespace Go.Proofs.YtoenijflijfogaaGreat
open Go.RowKit

theorem infoEn : (Tryz.prog.info? 60).map (fun i => (i.zero, i.size, i.bytes)) = some (some (.agg #[.slice none 0 0, .int .u64 0, .bool false, .int .i64 0, .int .u64 0, .int .i64 0, .int .i64 0]), 7, 72) := by kernel_rfl
theorem flat7_len : ∀ xs : List Ev, (xs.flatMap c7).length = xs.length * 7
  | [] => rfl
  | x :: xs => by rw [List.flatMap_cons, List.length_append, flat7_len xs, c7_len]; simp; omega
theorem row_set7 {w W : World} {base g n cap k : Nat} {cur : Array Value} {ys : List Ev} {y : Ev} (h : w.ownsRow base 60 7 (.slice (some ⟨g, 0, none⟩) n cap) n (ys.flatMap c7)) (hcur : w.heap[g]? = some (.cells cur 60))
    (hW : StW w W g (k * 7) cur 60 (c7 y)) (hn : ys.length = n) : W.ownsRow base 60 7 (.slice (some ⟨g, 0, none⟩) n cap) n ((ys.set k y).flatMap c7) := by
  obtain ⟨h1, h2⟩ := h
  refine ⟨by rw [flat7_len, List.length_set, hn], ?_⟩
  rcases h2 with ⟨h2, _⟩ | ⟨g', cap', cur0, hv, hg, hw, hc, hx, hs, ht⟩
  · simp at h2
  · have hv' := hv
    simp at hv'
    obtain ⟨rfl, rfl⟩ := hv'
    obtain rfl : cur0 = cur := by rw [hw] at hcur; simpa using hcur
    obtain ⟨cur', k1, k2, k3, k4⟩ := hW.c
    refine .inr ⟨g, cap, cur', rfl, hg, k1, hc, hx, by omega, ?_⟩
    apply List.ext_getElem?
    intro j
    rw [List.getElem?_take]
    by_cases hj : j < n * 7
    · rw [if_pos hj, Array.getElem?_toList]
      have hj7 : j / 7 < (ys.set k y).length := by simp; omega
      have e1 := flat7 (ys.set k y) (j / 7) (j % 7) hj7 (by omega)
      rw [show 7 * (j / 7) + j % 7 = j by omega] at e1
      rw [e1]
      by_cases hjk : j / 7 = k
      · have e2 : (ys.set k y)[j / 7]'hj7 = y := by simp [hjk]
        rw [e2]
        have := k4 (j % 7) (by rw [c7_len]; omega)
        rw [show k * 7 + j % 7 = j by omega] at this
        rw [this, List.getElem?_eq_getElem]
      · rw [k3 j (by rw [c7_len]; omega)]
        have e2 : (ys.set k y)[j / 7]'hj7 = ys[j / 7]'(by simpa using hj7) := by
          rw [List.getElem_set]; rw [if_neg (fun e => hjk e.symm)]
        rw [e2]
        have e3 := flat7 ys (j / 7) (j % 7) (by simpa using hj7) (by omega)
        rw [show 7 * (j / 7) + j % 7 = j by omega] at e3
        rw [← e3, ← ht, List.getElem?_take, if_pos hj, Array.getElem?_toList]
    · rw [if_neg hj, List.getElem?_eq_none (by rw [flat7_len, List.length_set]; omega)]
end Go.Proofs.YtoenijflijfogaaGreat

/- One more part of a heap; the contract of New. -/
namespace Go.Proofs.YtoenijflijfogaaGreat
open Go.RowKit

theorem wp_app_run {w w' : World} {o : Oper} {a : Act} {K : Act → World → Prop} {Q : Exit → Act → World → Prop} (s x : Operand) (t ty : TypeId) (ho : o.op = .call { callee := .builtin .append, args := #[s, x], argTypes := #[t, t] }) (hty : o.type = ty) (v vx v' : Value) (hs : a.eval s = v) (hx : a.eval x = vx)
    (hrun : (Builtin.append_ #[t, t] ty #[v, vx]).run Tryz.prog w = .ok v' w') (h : K (a.put o.dst v') w') : o.wp Tryz.prog a w K Q := by
  subst hty
  unfold Oper.wp
  simp [execOp, ho, resolve, invoke, builtin, hs, hx, hrun, Result.andThen]
  exact h
theorem wpList_app_run {w w' : World} {ops : Array Oper} {rest : List Oper} {o : Oper} {a : Act} {Q : Exit → Act → World → Prop} (hgd : o.guard = none) (s x : Operand) (t ty : TypeId) (ho : o.op = .call { callee := .builtin .append, args := #[s, x], argTypes := #[t, t] }) (hty : o.type = ty) (v vx v' : Value) (hs : a.eval s = v) (hx : a.eval x = vx)
    (hrun : (Builtin.append_ #[t, t] ty #[v, vx]).run Tryz.prog w = .ok v' w') (h : wpList Tryz.prog ops Q rest (a.put o.dst v') w') : wpList Tryz.prog ops Q (o :: rest) a w :=
  wpList_plain hgd fun _ hK => wp_app_run s x t ty ho hty v vx v' hs hx hrun (hK _ _ h)
end Go.Proofs.YtoenijflijfogaaGreat

/- All rows together: what the loop of All keeps. -/
namespace Go.Proofs.YtoenijflijfogaaGreat
open Go.RowKit

/-- Six cells of what is known. -/
def a6 (a : Ag) : List Value := [.int .u64 a.c, .bool a.o, .int .i64 (hi a.s), .int .u64 (lo a.s), .int .i64 a.mn, .int .i64 a.mx]
theorem row_setA {w W : World} {base g n cap k : Nat} {cur : Array Value} {ys : List Ev} {a : Ag} (h : w.ownsRow base 60 7 (.slice (some ⟨g, 0, none⟩) n cap) n (ys.flatMap c7)) (hcur : w.heap[g]? = some (.cells cur 60))
    (hW : StW w W g (k * 7 + 1) cur 60 (a6 a)) (hk : k < ys.length) (hn : ys.length = n) : W.ownsRow base 60 7 (.slice (some ⟨g, 0, none⟩) n cap) n ((ys.set k ⟨ys[k].kv, ys[k].k, a⟩).flatMap c7) := by
  have hcell := h
  obtain ⟨h1, h2⟩ := h
  rcases h2 with ⟨h2, _⟩ | ⟨g', cap', cur0, hv, hg, hw, hc, hx, hs, ht⟩
  · simp at h2
  · have hv' := hv
    simp at hv'
    obtain ⟨rfl, rfl⟩ := hv'
    obtain rfl : cur0 = cur := by rw [hw] at hcur; simpa using hcur
    refine row_set7 (y := ⟨ys[k].kv, ys[k].k, a⟩) hcell hw ⟨hW.b, hW.o, ?_⟩ hn
    obtain ⟨cur', k1, k2, k3, k4⟩ := hW.c
    refine ⟨cur', k1, k2, fun j hj => k3 j ?_, fun i hi => ?_⟩
    · rw [c7_len] at hj
      show j < k * 7 + 1 ∨ k * 7 + 1 + 6 ≤ j
      omega
    · have hi7 : i < 7 := hi
      cases i with
      | zero =>
        rw [Nat.add_zero, k3 (k * 7) (.inl (by omega))]
        have h3 := flat7 ys k 0 hk (by decide)
        rw [← ht, List.getElem?_take, if_pos (by omega), Array.getElem?_toList] at h3
        rw [show k * 7 = 7 * k + 0 by omega, h3]; rfl
      | succ i =>
        have := k4 i (by show i < 6; omega)
        rw [show k * 7 + (i + 1) = k * 7 + 1 + i by omega, this]
        rfl
/-- The entries that All has so far. -/
structure AlE (lo hh : Nat) (v : Value) (xs : List Ev) (E : List En) (w : World) : Prop where
  r : w.ownsRow hh 60 7 v xs.length (xs.flatMap c7)
  k : ∀ x ∈ xs, Own w lo x.kv x.k
  m : xs.map evE = E
  c : ∀ x ∈ xs, CnOk x.a
theorem AlE.below {lo hh : Nat} {v : Value} {xs : List Ev} {E : List En} {A B : World} (h : AlE lo hh v xs E A) (hb : Below A.heap.size A B) : AlE lo hh v xs E B :=
  ⟨row_kp h.r (Kp.of_below hb), fun x hx => (h.k x hx).below hb, h.m, h.c⟩
theorem AlE.fr {lo hh : Nat} {v : Value} {xs : List Ev} {E : List En} {A B : World} (h : AlE lo hh v xs E A) (hf : Fr lo hh A B) : AlE lo hh v xs E B := by
  refine ⟨?_, fun x hx => hf.own (h.k x hx), h.m, h.c⟩
  have hlt := World.ownsRow.lt h.r
  obtain ⟨h1, h2⟩ := h.r
  refine ⟨h1, ?_⟩
  rcases h2 with h2 | ⟨g, cap, cur, hv, hg, hw, r⟩
  · exact .inl h2
  · exact .inr ⟨g, cap, cur, hv, hg, (hf.h g hg (hlt g (by rw [hv]; rfl)).2).trans hw, r⟩
end Go.Proofs.YtoenijflijfogaaGreat

/- What comes of rows, put together: a row. -/
namespace Go.Proofs.YtoenijflijfogaaGreat

end Go.Proofs.YtoenijflijfogaaGreat
