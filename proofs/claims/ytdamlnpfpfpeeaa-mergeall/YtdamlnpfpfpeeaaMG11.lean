/- All rows together: what the loop of All keeps. -/
import Derived.Test.YtdamlnpfpfpeeaaMG10
namespace Go.Proofs.Ytdamlnpfpfpeeaa
open Go.RowKit

theorem addG_same {E : List En} {t : Tg} (h : 0 < E.length) (hk : (E[E.length - 1]'(by omega)).1 = t.1.1) : addG E t = E.set (E.length - 1) (t.1.1, mrg (E[E.length - 1]'(by omega)).2 t.2) := by
  rcases List.eq_nil_or_concat E with rfl | ⟨L, b, rfl⟩
  · simp at h
  · simp only [List.concat_eq_append] at hk ⊢
    have e1 : (L ++ [b])[(L ++ [b]).length - 1]'(by simp) = b := by simp
    rw [e1] at hk ⊢
    unfold addG
    simp only [List.getLast?_append, List.getLast?_singleton, Option.some_or, List.dropLast_concat]
    rw [if_pos hk, hk, List.length_append]
    simp
theorem addG_new {E : List En} {t : Tg} (h : ∀ h0 : 0 < E.length, (E[E.length - 1]'(by omega)).1 ≠ t.1.1) : addG E t = E ++ [(t.1.1, t.2)] := by
  rcases List.eq_nil_or_concat E with rfl | ⟨L, b, rfl⟩
  · rfl
  · simp only [List.concat_eq_append] at h ⊢
    have e1 : (L ++ [b])[(L ++ [b]).length - 1]'(by simp) = b := by simp
    have h1 := h (by simp)
    rw [e1] at h1
    unfold addG
    simp only [List.getLast?_append, List.getLast?_singleton, Option.some_or]
    rw [if_neg h1]
theorem grpG_snoc (D : List Tg) (t : Tg) : grpG (D ++ [t]) = addG (grpG D) t := by unfold grpG; rw [List.foldl_append]; rfl
theorem addG_len (E : List En) (t : Tg) : (addG E t).length ≤ E.length + 1 := by
  by_cases h : ∃ h0 : 0 < E.length, (E[E.length - 1]'(by omega)).1 = t.1.1
  · obtain ⟨h0, h1⟩ := h
    rw [addG_same h0 h1, List.length_set]; omega
  · rw [addG_new (fun h0 h1 => h ⟨h0, h1⟩)]; simp
theorem grpG_len (D : List Tg) : (grpG D).length ≤ D.length := by
  have : ∀ (D : List Tg) (E : List En), (D.foldl addG E).length ≤ E.length + D.length := by
    intro D
    induction D with
    | nil => intro E; simp
    | cons t D ih => intro E; have h1 := ih (addG E t); have h2 := addG_len E t; simp only [List.foldl_cons, List.length_cons]; omega
  have := this D []
  simpa [grpG] using this
theorem mrg_cn {a b : Ag} (ha : CnOk a) (hb : CnOk b) : CnOk (mrg a b) := by
  unfold mrg
  split
  · exact hb
  · split
    · exact ha
    · have h1 := ha.1
      have h2 := hb.1
      unfold CnOk
      simp only [cntF]
      split <;> omega
theorem tags_cn : ∀ (rs : List (List En)) (i : Nat), (∀ r ∈ rs, ∀ x ∈ r, CnOk x.2) → ∀ t ∈ tagsF i rs, CnOk t.2
  | [], _, _, t, h => by simp [tagsF] at h
  | r :: rs, i, hr, t, h => by
    unfold tagsF at h
    rcases List.mem_append.1 h with h | h
    · unfold tagP at h
      obtain ⟨x, hx, rfl⟩ := List.mem_map.1 h
      exact hr r (List.mem_cons_self ..) x hx
    · exact tags_cn rs (i + 1) (fun r' hr' => hr r' (List.mem_cons_of_mem _ hr')) t h
theorem tags_len : ∀ (rs : List (List En)) (i : Nat), (∀ r ∈ rs, r.length ≤ 100000) → (tagsF i rs).length ≤ rs.length * 100000
  | [], _, _ => by simp [tagsF]
  | r :: rs, i, h => by
    have h1 := tags_len rs (i + 1) (fun r' hr' => h r' (List.mem_cons_of_mem _ hr'))
    have h2 := h r (List.mem_cons_self ..)
    unfold tagsF
    rw [List.length_append]
    unfold tagP
    simp
    omega
theorem seq_cn {rs : List (List En)} (h : ∀ r ∈ rs, ∀ x ∈ r, CnOk x.2) : ∀ t ∈ seqF rs, CnOk t.2 := fun t ht => tags_cn rs 0 h t ((srtG_perm _).mem_iff.1 ht)
theorem seq_len {rs : List (List En)} (h : ∀ r ∈ rs, r.length ≤ 100000) : (seqF rs).length ≤ rs.length * 100000 := by
  unfold seqF
  rw [(srtG_perm _).length_eq]; exact tags_len rs 0 h
/-- Six cells of what is known. -/
def a6 (a : Ag) : List Value := [.int .u64 a.c, .bool a.o, .int .i64 (hi a.s), .int .u64 (lo a.s), .int .i64 a.mn, .int .i64 a.mx]
theorem row_setA {w W : World} {base g n cap k : Nat} {cur : Array Value} {ys : List Ev} {a : Ag} (h : w.ownsRow base 36 7 (.slice (some ⟨g, 0, none⟩) n cap) n (ys.flatMap c7)) (hcur : w.heap[g]? = some (.cells cur 36))
    (hW : StW w W g (k * 7 + 1) cur 36 (a6 a)) (hk : k < ys.length) (hn : ys.length = n) : W.ownsRow base 36 7 (.slice (some ⟨g, 0, none⟩) n cap) n ((ys.set k ⟨ys[k].kv, ys[k].k, a⟩).flatMap c7) := by
  have hcell := h
  obtain ⟨h1, h2⟩ := h
  rcases h2 with ⟨h2, _⟩ | ⟨g', cap', cur0, hv, hg, hw, hc, hx, hs, ht⟩
  · simp at h2
  · have hv' := hv
    simp at hv'
    obtain ⟨rfl, rfl⟩ := hv'
    obtain rfl : cur0 = cur := by rw [hw] at hcur; simpa using hcur
    refine row_set7 (y := ⟨ys[k].kv, ys[k].k, a⟩) hcell hw ⟨hW.b, hW.o, ?_⟩ hn
    obtain ⟨cur', k1, k2, k3, k4⟩ := hW.c
    refine ⟨cur', k1, k2, fun j hj => k3 j ?_, fun i hi => ?_⟩
    · rw [c7_len] at hj
      show j < k * 7 + 1 ∨ k * 7 + 1 + 6 ≤ j
      omega
    · have hi7 : i < 7 := hi
      cases i with
      | zero =>
        rw [Nat.add_zero, k3 (k * 7) (.inl (by omega))]
        have h3 := flat7 ys k 0 hk (by decide)
        rw [← ht, List.getElem?_take, if_pos (by omega), Array.getElem?_toList] at h3
        rw [show k * 7 = 7 * k + 0 by omega, h3]; rfl
      | succ i =>
        have := k4 i (by show i < 6; omega)
        rw [show k * 7 + (i + 1) = k * 7 + 1 + i by omega, this]
        rfl
/-- The entries that All has so far. -/
structure AlE (lo hh : Nat) (v : Value) (xs : List Ev) (E : List En) (w : World) : Prop where
  r : w.ownsRow hh 36 7 v xs.length (xs.flatMap c7)
  k : ∀ x ∈ xs, Own w lo x.kv x.k
  m : xs.map evE = E
  c : ∀ x ∈ xs, CnOk x.a
theorem AlE.below {lo hh : Nat} {v : Value} {xs : List Ev} {E : List En} {A B : World} (h : AlE lo hh v xs E A) (hb : Below A.heap.size A B) : AlE lo hh v xs E B :=
  ⟨row_kp h.r (Kp.of_below hb), fun x hx => (h.k x hx).below hb, h.m, h.c⟩
theorem AlE.fr {lo hh : Nat} {v : Value} {xs : List Ev} {E : List En} {A B : World} (h : AlE lo hh v xs E A) (hf : Fr lo hh A B) : AlE lo hh v xs E B := by
  refine ⟨?_, fun x hx => hf.own (h.k x hx), h.m, h.c⟩
  have hlt := World.ownsRow.lt h.r
  obtain ⟨h1, h2⟩ := h.r
  refine ⟨h1, ?_⟩
  rcases h2 with h2 | ⟨g, cap, cur, hv, hg, hw, r⟩
  · exact .inl h2
  · exact .inr ⟨g, cap, cur, hv, hg, (hf.h g hg (hlt g (by rw [hv]; rfl)).2).trans hw, r⟩
/-- The entry that All looks at, and what the heap still tells. -/
def AlT (lo hh h bx : Nat) (T : List Tg) (ok : Value) (w : World) : Prop := match T with
  | [] => ok = .bool false ∧ HS w lo hh h [] ∧ ∃ kv a, w.heap[bx]? = some (.cells (c7 ⟨kv, [], a⟩).toArray 36)
  | t :: T' => ok = .bool true ∧ HS w lo hh h T' ∧ ∃ kv, w.heap[bx]? = some (.cells (c7 ⟨kv, t.1.1, t.2⟩).toArray 36) ∧ Own w lo kv t.1.1
end Go.Proofs.Ytdamlnpfpfpeeaa
