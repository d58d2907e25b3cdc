/- CP1 MG9 MG10 MG11 MG17, joined. -/
import Derived.Test.YtgjcopabmdbenaaGreatQZ11
import Derived.Test.YtgjcopabmdbenaaGreatQZ13
import Derived.Laws.IdiomCopy
import Derived.Laws.AppendOwn
/- Bytes that are copied into the middle of bytes of one's own. -/
namespace Go.Proofs.YtgjcopabmdbenaaGreat
open Go.RowKit

theorem copy_gen {w : World} {base g n off m : Nat} {L l : List UInt8} {v : Value} (ty : TypeId) (hO : Own w base (.slice (some ⟨g, 0, none⟩) n n) L) (hR : Reads w v l) (hl : off + l.length ≤ n) (hm : m = n - off) :
    ∃ w3, (Builtin.copy_ #[44, 44] ty #[.slice (some ⟨g, off, none⟩) m m, v]).run Tryz.prog w = .ok (goInt l.length) w3 ∧ Own w3 base (.slice (some ⟨g, 0, none⟩) n n) (L.take off ++ l ++ L.drop (off + l.length)) ∧ Hid (Below base w w3) ∧ Hid (w.grownBy w3 (some g)) := by
  subst hm
  obtain ⟨i0, hi, hz0, hz1, hz2⟩ := info_parts info5
  have hLn : L.length = n := by
    obtain ⟨a, cap, hv, _⟩ := hO.form
    simp at hv; omega
  have hOw := hO
  obtain ⟨h1, h2⟩ := hO
  rcases h2 with ⟨h2, _⟩ | ⟨g', cap, cur, hv, hg, hw, hn, hm, hs, ht⟩
  · simp at h2
  · simp at hv
    obtain ⟨rfl, hv2, rfl⟩ := hv
    rcases hR with ⟨rfl, a, cp, rfl, _⟩ | ⟨b, o, cp, rfl, r2, r3, r4, r5, r6⟩
    · refine ⟨w, ?_, by simpa using hOw, Below.refl _ _, ⟨rfl, rfl, rfl, Nat.le_refl _, fun _ _ _ => rfl⟩⟩
      exact run_copy_none w 44 44 ty 5 _ a (n - off) (n - off) 0 cp Tryz.underlying44 (by rw [hi]; simp [hz1]) (Nat.zero_min _)
    · have hcl : cur.toList = L.map bc := by
        rw [← ht, List.take_of_length_le (by simp; omega)]
      have hrun := run_copy_row (P := Tryz.prog) w 44 44 ty 5 g off (n - off) (n - off) ⟨b, o, none⟩ l.length cp cur 5 (l.map bc) Tryz.underlying44 (by rw [hi]; simp [hz1]) hw (by rw [List.length_map]; exact (Nat.min_eq_left (by omega)).symm) (newsR r6) (by simp; omega) one_bc
      rw [List.length_map] at hrun
      refine ⟨_, hrun, ?_, below_setRow (Below.refl _ _) hg _, ?_⟩
      · have hheap := setRow_heap w g cur (cur.toList.take off ++ l.map bc ++ cur.toList.drop (off + l.length)).toArray 5 (0, 0) hw
        have e1 : cur.toList.take off ++ l.map bc ++ cur.toList.drop (off + l.length) = (L.take off ++ l ++ L.drop (off + l.length)).map bc := by
          rw [hcl]; simp
        rw [e1] at hheap ⊢
        have hlen : (L.take off ++ l ++ L.drop (off + l.length)).length = n := by simp; omega
        refine ⟨by simp, .inr ⟨g, n, _, by rw [hlen], hg, hheap, by omega, hm, by rw [List.size_toArray, List.length_map]; omega, ?_⟩⟩
        rw [hlen, List.toList_toArray, Nat.mul_one]; exact List.take_of_length_le (by rw [List.length_map]; omega)
      · have hb := below_setRow (Below.refl 0 w) (Nat.zero_le g) (cur.toList.take off ++ l.map bc ++ cur.toList.drop (off + l.length)).toArray
        refine ⟨rfl, rfl, rfl, hb.size, fun k hk hne => ?_⟩
        show (w.heap.modify g _)[k]? = _
        rw [Array.getElem?_modify, if_neg (fun e => hne (by rw [e]))]
theorem copy_none {w : World} {d a : Option Addr} {m c c' : Nat} (ty : TypeId) : (Builtin.copy_ #[44, 44] ty #[.slice d m c, .slice a 0 c']).run Tryz.prog w = .ok (goInt 0) w := by
  obtain ⟨i0, hi, hz0, hz1, hz2⟩ := info_parts info5
  exact run_copy_none w 44 44 ty 5 d a m c 0 c' Tryz.underlying44 (by rw [hi]; simp [hz1]) (Nat.zero_min _)
end Go.Proofs.YtgjcopabmdbenaaGreat

/- The contract of copied. -/
namespace Go.Proofs.YtgjcopabmdbenaaGreat
open Go.RowKit

theorem infoEn : (Tryz.prog.info? 46).map (fun i => (i.zero, i.size, i.bytes)) = some (some (.agg #[.slice none 0 0, .int .u64 0, .bool false, .int .i64 0, .int .u64 0, .int .i64 0, .int .i64 0]), 7, 72) := by kernel_rfl
def evZ : Ev := ⟨.slice none 0 0, [], agZ⟩
theorem made7 : ∀ n : Nat, (madeCells (Value.agg #[.slice none 0 0, .int .u64 0, .bool false, .int .i64 0, .int .u64 0, .int .i64 0, .int .i64 0]).cells (n * 7)).toList = (List.replicate n evZ).flatMap c7 := by
  intro n
  apply List.ext_getElem?
  intro j
  by_cases hj : j < n * 7
  · have h1 : j / 7 < (List.replicate n evZ).length := by simp; omega
    have h2 := flat7 (List.replicate n evZ) (j / 7) (j % 7) h1 (by omega)
    rw [show 7 * (j / 7) + j % 7 = j by omega] at h2
    rw [h2]
    have h3 : (List.replicate n evZ)[j / 7]'h1 = evZ := by simp
    rw [h3]
    have h4 : j % 7 < 7 := by omega
    simp only [madeCells, Value.cells]
    rw [Array.getElem?_toList]
    simp [hj]
    have : ∀ r : Fin 7, (#[Value.slice none 0 0, .int .u64 0, .bool false, .int .i64 0, .int .u64 0, .int .i64 0, .int .i64 0] : Array Value)[r.val]? = (c7 evZ)[r.val]? := by
      intro r
      match r with
      | 0 | 1 | 2 | 3 | 4 | 5 | 6 => rfl
    have h5 := this ⟨j % 7, h4⟩
    simp only [] at h5
    rw [← h5]
    simp [h4]
  · rw [List.getElem?_eq_none (by simp [madeCells]; omega), List.getElem?_eq_none]
    have : ∀ xs : List Ev, (xs.flatMap c7).length = xs.length * 7 := by
      intro xs
      induction xs with
      | nil => rfl
      | cons x xs ih => rw [List.flatMap_cons, List.length_append, ih, c7_len]; simp; omega
    rw [this]; simp; omega
theorem flat7_len : ∀ xs : List Ev, (xs.flatMap c7).length = xs.length * 7
  | [] => rfl
  | x :: xs => by rw [List.flatMap_cons, List.length_append, flat7_len xs, c7_len]; simp; omega
theorem row_set7 {w W : World} {base g n cap k : Nat} {cur : Array Value} {ys : List Ev} {y : Ev} (h : w.ownsRow base 46 7 (.slice (some ⟨g, 0, none⟩) n cap) n (ys.flatMap c7)) (hcur : w.heap[g]? = some (.cells cur 46))
    (hW : StW w W g (k * 7) cur 46 (c7 y)) (hn : ys.length = n) : W.ownsRow base 46 7 (.slice (some ⟨g, 0, none⟩) n cap) n ((ys.set k y).flatMap c7) := by
  obtain ⟨h1, h2⟩ := h
  refine ⟨by rw [flat7_len, List.length_set, hn], ?_⟩
  rcases h2 with ⟨h2, _⟩ | ⟨g', cap', cur0, hv, hg, hw, hc, hx, hs, ht⟩
  · simp at h2
  · have hv' := hv
    simp at hv'
    obtain ⟨rfl, rfl⟩ := hv'
    obtain rfl : cur0 = cur := by rw [hw] at hcur; simpa using hcur
    obtain ⟨cur', k1, k2, k3, k4⟩ := hW.c
    refine .inr ⟨g, cap, cur', rfl, hg, k1, hc, hx, by omega, ?_⟩
    apply List.ext_getElem?
    intro j
    rw [List.getElem?_take]
    by_cases hj : j < n * 7
    · rw [if_pos hj, Array.getElem?_toList]
      have hj7 : j / 7 < (ys.set k y).length := by simp; omega
      have e1 := flat7 (ys.set k y) (j / 7) (j % 7) hj7 (by omega)
      rw [show 7 * (j / 7) + j % 7 = j by omega] at e1
      rw [e1]
      by_cases hjk : j / 7 = k
      · have e2 : (ys.set k y)[j / 7]'hj7 = y := by simp [hjk]
        rw [e2]
        have := k4 (j % 7) (by rw [c7_len]; omega)
        rw [show k * 7 + j % 7 = j by omega] at this
        rw [this, List.getElem?_eq_getElem]
      · rw [k3 j (by rw [c7_len]; omega)]
        have e2 : (ys.set k y)[j / 7]'hj7 = ys[j / 7]'(by simpa using hj7) := by
          rw [List.getElem_set]; rw [if_neg (fun e => hjk e.symm)]
        rw [e2]
        have e3 := flat7 ys (j / 7) (j % 7) (by simpa using hj7) (by omega)
        rw [show 7 * (j / 7) + j % 7 = j by omega] at e3
        rw [← e3, ← ht, List.getElem?_take, if_pos hj, Array.getElem?_toList]
    · rw [if_neg hj, List.getElem?_eq_none (by rw [flat7_len, List.length_set]; omega)]
def CpPost (L : List En) (w : World) (e : Ending) (w' : World) : Prop := ∃ g xs, e = .returned (.slice (some ⟨g, 0, none⟩) L.length L.length) ∧ EOwn w' w.heap.size (.slice (some ⟨g, 0, none⟩) L.length L.length) xs ∧ xs.map evE = L ∧ Below w.heap.size w w'
/-- What the loop of copied keeps. -/
structure CpI (L : List En) (w : World) (g k : Nat) (xs : List Ev) (wr : World) : Prop where
  l : xs.length = k
  m : xs.map evE = L.take k
  r : wr.ownsRow w.heap.size 46 7 (.slice (some ⟨g, 0, none⟩) L.length L.length) L.length ((xs ++ List.replicate (L.length - k) evZ).flatMap c7)
  o : ∀ x ∈ xs, Own wr w.heap.size x.kv x.k
  b : Below w.heap.size w wr
end Go.Proofs.YtgjcopabmdbenaaGreat

/- One more part of a heap; the contract of New. -/
namespace Go.Proofs.YtgjcopabmdbenaaGreat
open Go.RowKit

theorem partsF_append : ∀ (rs ss : List (List En)) (i : Nat), partsF i (rs ++ ss) = partsF i rs ++ partsF (i + rs.length) ss
  | [], ss, i => by simp [partsF]
  | r :: rs, ss, i => by
    have ih := partsF_append rs ss (i + 1)
    rw [List.cons_append, partsF, partsF, ih, show i + 1 + rs.length = i + (r :: rs).length by simp; omega]
    split <;> rfl
theorem partsF_snoc {rs : List (List En)} {k : Nat} (hk : k < rs.length) : partsF 0 (rs.take (k + 1)) = partsF 0 (rs.take k) ++ (if rs[k] = [] then [] else [(rs[k], k)]) := by
  rw [List.take_add_one, List.getElem?_eq_getElem hk]
  show partsF 0 (rs.take k ++ [rs[k]]) = _
  rw [partsF_append]
  congr 1
  have : (rs.take k).length = k := by simp; omega
  rw [this, Nat.zero_add]
  unfold partsF
  split <;> rfl
theorem ptOk_of {w : World} {lo hh base g n : Nat} {xs : List Ev} {r : Nat} (h : EOwn w base (.slice (some ⟨g, 0, none⟩) n n) xs) (hb : lo ≤ base) (hn : xs.length = n) (h0 : 0 < n) (hg : g < hh) : PtOk w lo hh ⟨g, 0, n, xs, r⟩ := by
  obtain ⟨h1, h2⟩ := h
  have hlt := World.ownsRow.lt h1 g rfl
  rcases h1.2 with ⟨q, _⟩ | ⟨g', c', cur, q, hg', hw, hc, hx, hs, ht⟩
  · simp at q
  · have q' := q
    simp at q'
    obtain ⟨rfl, e, rfl⟩ := q'
    refine ⟨by show lo ≤ g; omega, hg, by show 0 < xs.length; omega, by show xs.length ≤ n; omega, by show n ≤ _; exact hx, ⟨cur, hw, fun j hj i hi => ?_⟩, fun x hx => (h2 x hx).mono hb⟩
    have hj' : j < xs.length := hj
    have h3 := flat7 xs j i hj' hi
    rw [← ht, List.getElem?_take, if_pos (by omega), Array.getElem?_toList] at h3
    show cur[0 + (7 * j + i)]? = _
    rw [Nat.zero_add, h3, List.getElem?_eq_getElem (show i < (c7 xs[j]).length from hi)]
    rfl
theorem wp_app_run {w w' : World} {o : Oper} {a : Act} {K : Act → World → Prop} {Q : Exit → Act → World → Prop} (s x : Operand) (t ty : TypeId) (ho : o.op = .call { callee := .builtin .append, args := #[s, x], argTypes := #[t, t] }) (hty : o.type = ty) (v vx v' : Value) (hs : a.eval s = v) (hx : a.eval x = vx)
    (hrun : (Builtin.append_ #[t, t] ty #[v, vx]).run Tryz.prog w = .ok v' w') (h : K (a.put o.dst v') w') : o.wp Tryz.prog a w K Q := by
  subst hty
  unfold Oper.wp
  simp [execOp, ho, resolve, invoke, builtin, hs, hx, hrun, Result.andThen]
  exact h
theorem wpList_app_run {w w' : World} {ops : Array Oper} {rest : List Oper} {o : Oper} {a : Act} {Q : Exit → Act → World → Prop} (hgd : o.guard = none) (s x : Operand) (t ty : TypeId) (ho : o.op = .call { callee := .builtin .append, args := #[s, x], argTypes := #[t, t] }) (hty : o.type = ty) (v vx v' : Value) (hs : a.eval s = v) (hx : a.eval x = vx)
    (hrun : (Builtin.append_ #[t, t] ty #[v, vx]).run Tryz.prog w = .ok v' w') (h : wpList Tryz.prog ops Q rest (a.put o.dst v') w') : wpList Tryz.prog ops Q (o :: rest) a w :=
  wpList_plain hgd fun _ hK => wp_app_run s x t ty ho hty v vx v' hs hx hrun (hK _ _ h)
theorem parts_len : ∀ (rs : List (List En)) (i : Nat), (partsF i rs).length ≤ rs.length
  | [], _ => Nat.le_refl _
  | r :: rs, i => by
    have := parts_len rs (i + 1)
    unfold partsF
    split
    · simp; omega
    · simp; omega
theorem rowsF_bad : ∀ {rs : List (List En)} {k : Nat} (hk : k < rs.length), (∀ j (hj : j < k), rowF (rs[j]'(by omega)) = 0) → rowF rs[k] ≠ 0 → rowsF rs = rowF rs[k]
  | r :: rs, 0, _, _, h => by
    have h' : rowF r ≠ 0 := h
    unfold rowsF; rw [if_neg h']; rfl
  | r :: rs, k + 1, hk, hj, h => by
    have h0 : rowF r = 0 := hj 0 (by omega)
    unfold rowsF
    rw [if_pos h0]
    exact rowsF_bad (rs := rs) (k := k) (by simpa using hk) (fun j hj2 => by have := hj (j + 1) (by omega); simpa using this) (by simpa using h)
theorem rReads_at {w : World} {rs : List (List En)} {b off n cap : Nat} (h : RReads w (.slice (some ⟨b, off, none⟩) n cap) rs) {k : Nat} (hk : k < rs.length) : ∃ ev, w.cell? ⟨b, off + k, none⟩ = some ev ∧ EReads w ev rs[k] := by
  obtain ⟨a, cap', hv, h1, h2, h3⟩ := h
  rcases h3 with rfl | ⟨b', off', h4, h5, h6⟩
  · simp at hk
  · simp at hv
    rw [h4] at hv
    simp at hv
    obtain ⟨⟨rfl, rfl⟩, _⟩ := hv
    exact h6 k hk
theorem rReads_some {w : World} {v : Value} {rs : List (List En)} (h : RReads w v rs) (h0 : 0 < rs.length) : ∃ b off cap, v = .slice (some ⟨b, off, none⟩) rs.length cap ∧ rs.length ≤ cap ∧ cap ≤ maxLen ∧ b < w.heap.size := by
  obtain ⟨a, cap, rfl, h1, h2, h3⟩ := h
  rcases h3 with rfl | ⟨b, off, rfl, h5, h6⟩
  · simp at h0
  · exact ⟨b, off, cap, rfl, h1, h2, h5⟩
end Go.Proofs.YtgjcopabmdbenaaGreat

/- All rows together: what the loop of All keeps. -/
namespace Go.Proofs.YtgjcopabmdbenaaGreat
open Go.RowKit

theorem addG_same {E : List En} {t : Tg} (h : 0 < E.length) (hk : (E[E.length - 1]'(by omega)).1 = t.1.1) : addG E t = E.set (E.length - 1) (t.1.1, mrg (E[E.length - 1]'(by omega)).2 t.2) := by
  rcases List.eq_nil_or_concat E with rfl | ⟨L, b, rfl⟩
  · simp at h
  · simp only [List.concat_eq_append] at hk ⊢
    have e1 : (L ++ [b])[(L ++ [b]).length - 1]'(by simp) = b := by simp
    rw [e1] at hk ⊢
    unfold addG
    simp only [List.getLast?_append, List.getLast?_singleton, Option.some_or, List.dropLast_concat]
    rw [if_pos hk, hk, List.length_append]
    simp
theorem addG_new {E : List En} {t : Tg} (h : ∀ h0 : 0 < E.length, (E[E.length - 1]'(by omega)).1 ≠ t.1.1) : addG E t = E ++ [(t.1.1, t.2)] := by
  rcases List.eq_nil_or_concat E with rfl | ⟨L, b, rfl⟩
  · rfl
  · simp only [List.concat_eq_append] at h ⊢
    have e1 : (L ++ [b])[(L ++ [b]).length - 1]'(by simp) = b := by simp
    have h1 := h (by simp)
    rw [e1] at h1
    unfold addG
    simp only [List.getLast?_append, List.getLast?_singleton, Option.some_or]
    rw [if_neg h1]
theorem grpG_snoc (D : List Tg) (t : Tg) : grpG (D ++ [t]) = addG (grpG D) t := by unfold grpG; rw [List.foldl_append]; rfl
theorem addG_len (E : List En) (t : Tg) : (addG E t).length ≤ E.length + 1 := by
  by_cases h : ∃ h0 : 0 < E.length, (E[E.length - 1]'(by omega)).1 = t.1.1
  · obtain ⟨h0, h1⟩ := h
    rw [addG_same h0 h1, List.length_set]; omega
  · rw [addG_new (fun h0 h1 => h ⟨h0, h1⟩)]; simp
theorem grpG_len (D : List Tg) : (grpG D).length ≤ D.length := by
  have : ∀ (D : List Tg) (E : List En), (D.foldl addG E).length ≤ E.length + D.length := by
    intro D
    induction D with
    | nil => intro E; simp
    | cons t D ih => intro E; have h1 := ih (addG E t); have h2 := addG_len E t; simp only [List.foldl_cons, List.length_cons]; omega
  have := this D []
  simpa [grpG] using this
theorem mrg_cn {a b : Ag} (ha : CnOk a) (hb : CnOk b) : CnOk (mrg a b) := by
  unfold mrg
  split
  · exact hb
  · split
    · exact ha
    · have h1 := ha.1
      have h2 := hb.1
      unfold CnOk
      simp only [cntF]
      split <;> omega
theorem tags_cn : ∀ (rs : List (List En)) (i : Nat), (∀ r ∈ rs, ∀ x ∈ r, CnOk x.2) → ∀ t ∈ tagsF i rs, CnOk t.2
  | [], _, _, t, h => by simp [tagsF] at h
  | r :: rs, i, hr, t, h => by
    unfold tagsF at h
    rcases List.mem_append.1 h with h | h
    · unfold tagP at h
      obtain ⟨x, hx, rfl⟩ := List.mem_map.1 h
      exact hr r (List.mem_cons_self ..) x hx
    · exact tags_cn rs (i + 1) (fun r' hr' => hr r' (List.mem_cons_of_mem _ hr')) t h
theorem tags_len : ∀ (rs : List (List En)) (i : Nat), (∀ r ∈ rs, r.length ≤ 100000) → (tagsF i rs).length ≤ rs.length * 100000
  | [], _, _ => by simp [tagsF]
  | r :: rs, i, h => by
    have h1 := tags_len rs (i + 1) (fun r' hr' => h r' (List.mem_cons_of_mem _ hr'))
    have h2 := h r (List.mem_cons_self ..)
    unfold tagsF
    rw [List.length_append]
    unfold tagP
    simp
    omega
theorem seq_cn {rs : List (List En)} (h : ∀ r ∈ rs, ∀ x ∈ r, CnOk x.2) : ∀ t ∈ seqF rs, CnOk t.2 := fun t ht => tags_cn rs 0 h t ((srtG_perm _).mem_iff.1 ht)
theorem seq_len {rs : List (List En)} (h : ∀ r ∈ rs, r.length ≤ 100000) : (seqF rs).length ≤ rs.length * 100000 := by
  unfold seqF
  rw [(srtG_perm _).length_eq]; exact tags_len rs 0 h
/-- Six cells of what is known. -/
def a6 (a : Ag) : List Value := [.int .u64 a.c, .bool a.o, .int .i64 (hi a.s), .int .u64 (lo a.s), .int .i64 a.mn, .int .i64 a.mx]
theorem row_setA {w W : World} {base g n cap k : Nat} {cur : Array Value} {ys : List Ev} {a : Ag} (h : w.ownsRow base 46 7 (.slice (some ⟨g, 0, none⟩) n cap) n (ys.flatMap c7)) (hcur : w.heap[g]? = some (.cells cur 46))
    (hW : StW w W g (k * 7 + 1) cur 46 (a6 a)) (hk : k < ys.length) (hn : ys.length = n) : W.ownsRow base 46 7 (.slice (some ⟨g, 0, none⟩) n cap) n ((ys.set k ⟨ys[k].kv, ys[k].k, a⟩).flatMap c7) := by
  have hcell := h
  obtain ⟨h1, h2⟩ := h
  rcases h2 with ⟨h2, _⟩ | ⟨g', cap', cur0, hv, hg, hw, hc, hx, hs, ht⟩
  · simp at h2
  · have hv' := hv
    simp at hv'
    obtain ⟨rfl, rfl⟩ := hv'
    obtain rfl : cur0 = cur := by rw [hw] at hcur; simpa using hcur
    refine row_set7 (y := ⟨ys[k].kv, ys[k].k, a⟩) hcell hw ⟨hW.b, hW.o, ?_⟩ hn
    obtain ⟨cur', k1, k2, k3, k4⟩ := hW.c
    refine ⟨cur', k1, k2, fun j hj => k3 j ?_, fun i hi => ?_⟩
    · rw [c7_len] at hj
      show j < k * 7 + 1 ∨ k * 7 + 1 + 6 ≤ j
      omega
    · have hi7 : i < 7 := hi
      cases i with
      | zero =>
        rw [Nat.add_zero, k3 (k * 7) (.inl (by omega))]
        have h3 := flat7 ys k 0 hk (by decide)
        rw [← ht, List.getElem?_take, if_pos (by omega), Array.getElem?_toList] at h3
        rw [show k * 7 = 7 * k + 0 by omega, h3]; rfl
      | succ i =>
        have := k4 i (by show i < 6; omega)
        rw [show k * 7 + (i + 1) = k * 7 + 1 + i by omega, this]
        rfl
/-- The entries that All has so far. -/
structure AlE (lo hh : Nat) (v : Value) (xs : List Ev) (E : List En) (w : World) : Prop where
  r : w.ownsRow hh 46 7 v xs.length (xs.flatMap c7)
  k : ∀ x ∈ xs, Own w lo x.kv x.k
  m : xs.map evE = E
  c : ∀ x ∈ xs, CnOk x.a
theorem AlE.below {lo hh : Nat} {v : Value} {xs : List Ev} {E : List En} {A B : World} (h : AlE lo hh v xs E A) (hb : Below A.heap.size A B) : AlE lo hh v xs E B :=
  ⟨row_kp h.r (Kp.of_below hb), fun x hx => (h.k x hx).below hb, h.m, h.c⟩
theorem AlE.fr {lo hh : Nat} {v : Value} {xs : List Ev} {E : List En} {A B : World} (h : AlE lo hh v xs E A) (hf : Fr lo hh A B) : AlE lo hh v xs E B := by
  refine ⟨?_, fun x hx => hf.own (h.k x hx), h.m, h.c⟩
  have hlt := World.ownsRow.lt h.r
  obtain ⟨h1, h2⟩ := h.r
  refine ⟨h1, ?_⟩
  rcases h2 with h2 | ⟨g, cap, cur, hv, hg, hw, r⟩
  · exact .inl h2
  · exact .inr ⟨g, cap, cur, hv, hg, (hf.h g hg (hlt g (by rw [hv]; rfl)).2).trans hw, r⟩
end Go.Proofs.YtgjcopabmdbenaaGreat

/- What comes of rows, put together: a row. -/
namespace Go.Proofs.YtgjcopabmdbenaaGreat

theorem snoc_ind {α : Type} {p : List α → Prop} (h0 : p []) (h1 : ∀ l x, p l → p (l ++ [x])) : ∀ l, p l := by
  intro l
  have : ∀ r : List α, p r.reverse := by
    intro r
    induction r with
    | nil => exact h0
    | cons x r ih => rw [List.reverse_cons]; exact h1 _ _ ih
  have h := this l.reverse
  rwa [List.reverse_reverse] at h
theorem mrg_right {a b : Ag} (ha : rightB a = true) (hb : rightB b = true) (ca : CnOk a) (cb : CnOk b) : rightB (mrg a b) = true := by
  unfold mrg
  by_cases h1 : a.c = 0
  · rw [if_pos h1]; exact hb
  · rw [if_neg h1]
    by_cases h2 : b.c = 0
    · rw [if_pos h2]; exact ha
    · rw [if_neg h2]
      obtain ⟨a1, a2⟩ := ca
      obtain ⟨b1, b2⟩ := cb
      unfold rightB at ha hb ⊢
      rw [if_neg h1] at ha
      rw [if_neg h2] at hb
      simp only [Bool.and_eq_true, decide_eq_true_eq, Bool.or_eq_true, Bool.not_eq_true', beq_iff_eq] at ha hb
      have hc : 0 < cntF a.c b.c := by unfold cntF; split <;> omega
      show (if cntF a.c b.c = 0 then _ else _) = true
      rw [if_neg (by omega)]
      simp only [Bool.and_eq_true, decide_eq_true_eq, Bool.or_eq_true, Bool.not_eq_true', beq_iff_eq]
      refine ⟨by unfold minF maxF; split <;> split <;> omega, ?_⟩
      by_cases h : 18446744073709551616 ≤ a.c + b.c
      · right; unfold cntF; rw [if_neg (by omega)]
      · have hov : ovF a.c b.c = false := by unfold ovF; simp; omega
        rw [hov]
        cases ho : a.o
        · cases ho2 : b.o
          · left; rfl
          · rcases hb.2 with h2 | h2
            · rw [ho2] at h2; cases h2
            · omega
        · rcases ha.2 with h2 | h2
          · rw [ho] at h2; cases h2
          · omega
/-- What is known of what has been put together so far. -/
structure Grp (D : List Tg) : Prop where
  so : (keysE (grpG D)).Pairwise ltK
  ri : ∀ x ∈ grpG D, rightB x.2 = true ∧ CnOk x.2
  la : ∀ h : 0 < (grpG D).length, ∀ h2 : 0 < D.length, ((grpG D)[(grpG D).length - 1]'(by omega)).1 = (D[D.length - 1]'(by omega)).1.1
  ne : 0 < D.length → 0 < (grpG D).length
  ke : ∀ x ∈ grpG D, ∃ t ∈ D, x.1 = t.1.1
theorem grp_all : ∀ D : List Tg, D.Pairwise ltG → (∀ t ∈ D, rightB t.2 = true ∧ CnOk t.2) → Grp D := by
  refine snoc_ind ?_ ?_
  · intro _ _
    exact ⟨List.Pairwise.nil, fun x hx => (by cases hx), fun h => (by simp [grpG] at h), fun h => (by simp at h), fun x hx => (by cases hx)⟩
  · intro D t ih hp hr
    rw [List.pairwise_append] at hp
    have hg := ih hp.1 (fun x hx => hr x (List.mem_append_left _ hx))
    have ht := hr t (by simp)
    by_cases hc : ∃ h0 : 0 < (grpG D).length, ((grpG D)[(grpG D).length - 1]'(by omega)).1 = t.1.1
    · obtain ⟨h0, h1⟩ := hc
      have e := addG_same h0 h1
      rw [← grpG_snoc] at e
      have hk : keysE (grpG (D ++ [t])) = keysE (grpG D) := by
        rw [e]
        unfold keysE
        rw [List.map_set]
        apply List.ext_getElem
        · simp
        · intro j h3 h4
          rw [List.getElem_set]; split
          · rename_i ej; subst ej; simp [h1]
          · rfl
      refine ⟨by rw [hk]; exact hg.so, fun x hx => ?_, fun h3 h4 => ?_, fun _ => by rw [e, List.length_set]; exact h0, fun x hx => ?_⟩
      · rw [e] at hx
        rcases List.mem_or_eq_of_mem_set hx with hx | rfl
        · exact hg.ri x hx
        · have h5 := hg.ri _ (List.getElem_mem (show (grpG D).length - 1 < (grpG D).length by omega))
          exact ⟨mrg_right h5.1 ht.1 h5.2 ht.2, mrg_cn h5.2 ht.2⟩
      · have e2 : (grpG (D ++ [t])).length = (grpG D).length := by rw [e, List.length_set]
        simp only [e2]
        have e3 : (grpG (D ++ [t]))[(grpG D).length - 1]'(by omega) = (t.1.1, mrg ((grpG D)[(grpG D).length - 1]'(by omega)).2 t.2) := by
          simp only [e]; simp
        rw [e3]; simp
      · rw [e] at hx
        rcases List.mem_or_eq_of_mem_set hx with hx | rfl
        · obtain ⟨d, hd, hd2⟩ := hg.ke x hx
          exact ⟨d, List.mem_append_left _ hd, hd2⟩
        · exact ⟨t, by simp, rfl⟩
    · have e := addG_new (t := t) (E := grpG D) (fun h0 h1 => hc ⟨h0, h1⟩)
      rw [← grpG_snoc] at e
      have hlast : ∀ x ∈ keysE (grpG D), ltK x t.1.1 := by
        intro x hx
        obtain ⟨i, hi, rfl⟩ := List.getElem_of_mem hx
        have hi' : i < (grpG D).length := by simpa [keysE] using hi
        have hD : 0 < D.length := by
          rcases Nat.eq_zero_or_pos D.length with h | h
          · rw [List.length_eq_zero_iff.1 h] at hi'; simp [grpG] at hi'
          · exact h
        have hla := hg.la (by omega) hD
        have hlt := hp.2.2 (D[D.length - 1]'(by omega)) (List.getElem_mem _) t (by simp)
        have hk : ltK ((grpG D)[(grpG D).length - 1]'(by omega)).1 t.1.1 := by
          rw [hla]
          rcases hlt with h | ⟨h, _⟩
          · exact h
          · exact absurd ⟨by omega, hla.trans h⟩ hc
        rcases Nat.lt_or_ge i ((grpG D).length - 1) with h5 | h5
        · have := List.pairwise_iff_getElem.1 hg.so i ((grpG D).length - 1) hi (by simp [keysE]; omega) h5
          simp only [keysE, List.getElem_map] at this ⊢
          exact ltK_trans this hk
        · have e5 : i = (grpG D).length - 1 := by omega
          subst e5
          simp only [keysE, List.getElem_map]
          exact hk
      refine ⟨?_, fun x hx => ?_, fun h3 h4 => ?_, fun _ => by rw [e]; simp, fun x hx => ?_⟩
      · rw [e]
        unfold keysE
        rw [List.map_append, List.pairwise_append]
        refine ⟨hg.so, List.pairwise_singleton _ _, fun x hx y hy => ?_⟩
        obtain rfl : y = t.1.1 := by simpa using hy
        exact hlast x hx
      · rw [e] at hx
        rcases List.mem_append.1 hx with hx | hx
        · exact hg.ri x hx
        · obtain rfl : x = (t.1.1, t.2) := by simpa using hx
          exact ht
      · simp only [e]; simp
      · rw [e] at hx
        rcases List.mem_append.1 hx with hx | hx
        · obtain ⟨d, hd, hd2⟩ := hg.ke x hx
          exact ⟨d, List.mem_append_left _ hd, hd2⟩
        · obtain rfl : x = (t.1.1, t.2) := by simpa using hx
          exact ⟨t, by simp, rfl⟩
theorem tags_mem : ∀ (rs : List (List En)) (i : Nat), ∀ t ∈ tagsF i rs, ∃ r ∈ rs, (t.1.1, t.2) ∈ r
  | [], _, t, h => by simp [tagsF] at h
  | r :: rs, i, t, h => by
    unfold tagsF at h
    rcases List.mem_append.1 h with h | h
    · unfold tagP at h
      obtain ⟨x, hx, rfl⟩ := List.mem_map.1 h
      exact ⟨r, List.mem_cons_self .., hx⟩
    · obtain ⟨r', h1, h2⟩ := tags_mem rs (i + 1) t h
      exact ⟨r', List.mem_cons_of_mem _ h1, h2⟩
theorem seq_mem {rs : List (List En)} : ∀ t ∈ seqF rs, ∃ r ∈ rs, (t.1.1, t.2) ∈ r := fun t ht => tags_mem rs 0 t ((srtG_perm _).mem_iff.1 ht)
theorem all_grp {rs : List (List En)} (h : rowsF rs = 0) (hc : ∀ r ∈ rs, ∀ x ∈ r, CnOk x.2) : Grp (seqF rs) := by
  refine grp_all _ (seqF_pw h) (fun t ht => ?_)
  obtain ⟨r, hr, hx⟩ := seq_mem t ht
  exact ⟨(rowF_ok (rowsF_ok.1 h r hr)).2 _ hx, hc r hr _ hx⟩
/-- All rows together are a row. -/
theorem allF_row {rs : List (List En)} (h : rowsF rs = 0) (hc : ∀ r ∈ rs, ∀ x ∈ r, CnOk x.2) : rowF (allF rs) = 0 := by
  have hg := all_grp h hc
  exact rowF_of hg.so (fun x hx => (hg.ri x hx).1)
theorem allF_key {rs : List (List En)} (h : rowsF rs = 0) (hc : ∀ r ∈ rs, ∀ x ∈ r, CnOk x.2) : ∀ x ∈ allF rs, ∃ r ∈ rs, ∃ y ∈ r, x.1 = y.1 := by
  intro x hx
  obtain ⟨t, ht, hk⟩ := (all_grp h hc).ke x hx
  obtain ⟨r, hr, hy⟩ := seq_mem t ht
  exact ⟨r, hr, _, hy, hk⟩
theorem grp_tag : ∀ (l : List En) (i : Nat), (keysE l).Pairwise ltK → grpG (tagP (l, i)) = l := by
  refine snoc_ind ?_ ?_
  · intro i _; rfl
  · intro l x ih i hp
    have e : tagP (l ++ [x], i) = tagP (l, i) ++ [((x.1, i), x.2)] := by unfold tagP; simp
    unfold keysE at hp
    rw [List.map_append, List.pairwise_append] at hp
    rw [e, grpG_snoc, ih i hp.1, addG_new]
    intro h0 h1
    have := hp.2.2 _ (List.mem_map.2 ⟨_, List.getElem_mem (show l.length - 1 < l.length by omega), rfl⟩) x.1 (by simp)
    exact ltK_ne this h1
theorem tagP_pw {l : List En} {i : Nat} (h : (keysE l).Pairwise ltK) : (tagP (l, i)).Pairwise ltG := by
  unfold tagP
  rw [List.pairwise_map]
  unfold keysE at h
  rw [List.pairwise_map] at h
  exact h.imp (fun hab => .inl hab)
/-- A row, with empty ones. -/
theorem allF_alone {l : List En} (h : rowF l = 0) : rowsF [[], l, []] = 0 ∧ allF [[], l, []] = l := by
  have h0 : rowF [] = 0 := rowF_of List.Pairwise.nil (fun x hx => (by cases hx))
  have hr : rowsF [[], l, []] = 0 := rowsF_ok.2 (fun r hr => by
    simp only [List.mem_cons, List.not_mem_nil, or_false] at hr
    rcases hr with rfl | rfl | rfl
    · exact h0
    · exact h
    · exact h0)
  refine ⟨hr, ?_⟩
  have e : tagsF 0 [[], l, []] = tagP (l, 1) := by simp [tagsF, tagP]
  have e2 : seqF [[], l, []] = tagP (l, 1) := pw_unique (seqF_pw hr) (tagP_pw (rowF_ok h).1) ((srtG_perm _).trans (by rw [e]))
  unfold allF
  rw [e2]
  exact grp_tag l 1 (rowF_ok h).1
end Go.Proofs.YtgjcopabmdbenaaGreat
