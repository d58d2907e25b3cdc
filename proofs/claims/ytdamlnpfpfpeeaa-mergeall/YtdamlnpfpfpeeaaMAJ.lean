import Derived.Test.YtdamlnpfpfpeeaaCN
import Derived.Test.YtdamlnpfpfpeeaaMO1
import Derived.Test.YtdamlnpfpfpeeaaMR1
import Derived.Test.YtdamlnpfpfpeeaaRM1x
import Derived.Test.YtdamlnpfpfpeeaaRS
import Derived.Test.YtdamlnpfpfpeeaaMG18
import Derived.Test.YtdamlnpfpfpeeaaMG14
import Derived.BigRegion
import Derived.Laws.BitsAllLaws
/- Where an entry is put. -/
namespace Go.Proofs.Ytdamlnpfpfpeeaa

theorem ins_behind (x : En) : ∀ (L : List En), (∀ y ∈ L, ltK y.1 x.1) → ins x L = L ++ [x]
  | [], _ => rfl
  | y :: L, h => by
    rw [ins_gt (h y (List.mem_cons_self ..)), ins_behind x L (fun z hz => h z (List.mem_cons_of_mem _ hz))]; rfl
theorem ins_into (x : En) : ∀ (A B : List En), (∀ y ∈ A, ltK y.1 x.1) → ins x (A ++ B) = A ++ ins x B
  | [], _, _ => rfl
  | y :: A, B, h => by
    rw [List.cons_append, ins_gt (h y (List.mem_cons_self ..)), ins_into x A B (fun z hz => h z (List.mem_cons_of_mem _ hz))]; rfl
theorem ins_same {x : En} {L : List En} {k : Nat} (hk : k < L.length) (h : ∀ y ∈ L.take k, ltK y.1 x.1) (e : x.1 = L[k].1) : ins x L = L.take k ++ (x.1, mrg x.2 L[k].2) :: L.drop (k + 1) := by
  conv => lhs; rw [← List.take_append_drop k L]
  rw [ins_into x _ _ h, List.drop_eq_getElem_cons hk, ins_eq e, e]
theorem ins_new {x : En} {L : List En} {k : Nat} (hk : k < L.length) (h : ∀ y ∈ L.take k, ltK y.1 x.1) (e : ltK x.1 L[k].1) : ins x L = L.take k ++ x :: L.drop k := by
  conv => lhs; rw [← List.take_append_drop k L]
  rw [ins_into x _ _ h, List.drop_eq_getElem_cons hk, ins_lt e]
/-- Entries that are put one behind the other. -/
def putA (M : List En) : List En := M.foldl (fun L x => ins x L) []
theorem putA_snoc (M : List En) (x : En) : putA (M ++ [x]) = ins x (putA M) := by simp [putA, List.foldl_append]
theorem putA_rev (M : List En) : putA M = can M.reverse := by
  unfold putA can ap
  rw [List.foldl_eq_foldr_reverse]
theorem putA_can {M : List En} (h : GdE M) : putA M = can M := by
  rw [putA_rev]
  exact can_perm (List.reverse_perm M) (fun y hy => h y (List.mem_reverse.1 hy))
end Go.Proofs.Ytdamlnpfpfpeeaa

/- Entries that are copied from row to row, with their keys' slices as they are. -/
namespace Go.Proofs.Ytdamlnpfpfpeeaa
open Go.RowKit

/-- A slice holds these entries. -/
def ERc (w : World) (v : Value) (xs : List Ev) : Prop :=
  ∃ a cap, v = .slice a xs.length cap ∧ xs.length ≤ cap ∧ cap ≤ maxLen ∧ (xs = [] ∨ ∃ b off, a = some ⟨b, off, none⟩ ∧ b < w.heap.size ∧ ∀ j (hj : j < xs.length) i (hi : i < 7), w.cell? ⟨b, off + (7 * j + i), none⟩ = some ((c7 xs[j])[i]'hi))
/-- What they hold can be read. -/
def EvR (w : World) (xs : List Ev) : Prop := ∀ x ∈ xs, Reads w x.kv x.k ∧ CnOk x.a
theorem EvR.below {w w' : World} {xs : List Ev} (h : EvR w xs) (hb : Below w.heap.size w w') : EvR w' xs := fun x hx => ⟨(h x hx).1.below hb, (h x hx).2⟩
theorem ERc.below {w w' : World} {v : Value} {xs : List Ev} (h : ERc w v xs) (hb : Below w.heap.size w w') : ERc w' v xs := by
  obtain ⟨a, cap, rfl, h1, h2, h3⟩ := h
  refine ⟨a, cap, rfl, h1, h2, ?_⟩
  rcases h3 with h3 | ⟨b, off, h4, h5, h6⟩
  · exact .inl h3
  · exact .inr ⟨b, off, h4, Nat.lt_of_lt_of_le h5 hb.size, fun j hj i hi => (hb.cell (p := ⟨b, off + (7 * j + i), none⟩) h5).trans (h6 j hj i hi)⟩
theorem ERc.of {w : World} {v : Value} {L : List En} (h : EReads w v L) : ∃ xs, ERc w v xs ∧ EvR w xs ∧ xs.map evE = L := by
  obtain ⟨a, cap, rfl, h1, h2, h3⟩ := h
  rcases h3 with rfl | ⟨b, off, rfl, h5, h6⟩
  · exact ⟨[], ⟨a, cap, rfl, h1, h2, .inl rfl⟩, (fun x hx => by cases hx), rfl⟩
  · have hall : ∀ j, ∃ kv : Value, ∀ hj : j < L.length, (∀ i (hi : i < 7), w.cell? ⟨b, off + (7 * j + i), none⟩ = some ((c7 ⟨kv, L[j].1, L[j].2⟩)[i]'hi)) ∧ Reads w kv L[j].1 ∧ CnOk L[j].2 := by
      intro j
      by_cases hj : j < L.length
      · obtain ⟨kv, g⟩ := h6 j hj
        exact ⟨kv, fun _ => g⟩
      · exact ⟨.bool false, fun h => absurd h hj⟩
    obtain ⟨ks, hks⟩ := Classical.axiomOfChoice hall
    have hl : (L.zipIdx.map fun p => (⟨ks p.2, p.1.1, p.1.2⟩ : Ev)).length = L.length := by simp
    have hg : ∀ j (hj : j < L.length), (L.zipIdx.map fun p => (⟨ks p.2, p.1.1, p.1.2⟩ : Ev))[j]'(by rw [hl]; exact hj) = ⟨ks j, L[j].1, L[j].2⟩ := by
      intro j hj; simp
    refine ⟨L.zipIdx.map fun p => ⟨ks p.2, p.1.1, p.1.2⟩, ⟨_, cap, by rw [hl], by rw [hl]; exact h1, h2, .inr ⟨b, off, rfl, h5, fun j hj i hi => ?_⟩⟩, fun x hx => ?_, ?_⟩
    · rw [hl] at hj
      rw [hg j hj]
      exact (hks j hj).1 i hi
    · obtain ⟨j, hj, rfl⟩ := List.getElem_of_mem hx
      rw [hl] at hj
      rw [hg j hj]
      exact (hks j hj).2
    · apply List.ext_getElem
      · simp
      · intro j h7 h8
        simp [evE]
theorem ERc.reads {w : World} {v : Value} {xs : List Ev} (h : ERc w v xs) (hr : EvR w xs) : EReads w v (xs.map evE) := by
  obtain ⟨a, cap, rfl, h1, h2, h3⟩ := h
  refine ⟨a, cap, by simp, by simpa using h1, h2, ?_⟩
  rcases h3 with rfl | ⟨b, off, h4, h5, h6⟩
  · exact .inl rfl
  · refine .inr ⟨b, off, h4, h5, fun j hj => ?_⟩
    simp at hj
    have e : (xs.map evE)[j]'(by simpa using hj) = evE xs[j] := by simp
    rw [e]
    exact ⟨xs[j].kv, fun i hi => h6 j hj i hi, (hr _ (List.getElem_mem hj)).1, (hr _ (List.getElem_mem hj)).2⟩
theorem ERc.form {w : World} {v : Value} {xs : List Ev} (h : ERc w v xs) : ∃ a cap, v = .slice a xs.length cap ∧ xs.length ≤ cap ∧ cap ≤ maxLen := by
  obtain ⟨a, cap, rfl, h1, h2, _⟩ := h
  exact ⟨a, cap, rfl, h1, h2⟩
theorem ERc.ptr {w : World} {a : Option Addr} {n cap : Nat} {xs : List Ev} (h : ERc w (.slice a n cap) xs) (h0 : 0 < xs.length) : ∃ b off, a = some ⟨b, off, none⟩ ∧ b < w.heap.size ∧ ∀ j (hj : j < xs.length) i (hi : i < 7), w.cell? ⟨b, off + (7 * j + i), none⟩ = some ((c7 xs[j])[i]'hi) := by
  obtain ⟨a', cap', hv, h1, h2, h3⟩ := h
  simp at hv
  obtain ⟨rfl, rfl, rfl⟩ := hv
  rcases h3 with rfl | h3
  · simp at h0
  · exact h3
theorem ERc.sliced {w : World} {a : Option Addr} {cap : Nat} {xs : List Ev} (h : ERc w (.slice a xs.length cap) xs) {c d : Nat} (hc : c ≤ d) (hd : d ≤ xs.length) : ERc w (Go.sliced a c d cap 7) ((xs.take d).drop c) := by
  obtain ⟨a', cap', hv, h1, h2, h3⟩ := h
  simp at hv
  obtain ⟨rfl, rfl⟩ := hv
  unfold Go.sliced
  have hl : ((xs.take d).drop c).length = d - c := by simp; omega
  refine ⟨_, cap - c, by rw [hl], by rw [hl]; omega, by omega, ?_⟩
  rcases Nat.eq_zero_or_pos (d - c) with h0 | h0
  · exact .inl (List.length_eq_zero_iff.1 (by rw [hl]; exact h0))
  · right
    rcases h3 with rfl | ⟨b, off, rfl, h5, h6⟩
    · simp at hd; omega
    · rw [if_neg (by omega)]
      refine ⟨b, off + c * 7, by simp [Addr.add], h5, fun j hj i hi => ?_⟩
      rw [hl] at hj
      rw [show off + c * 7 + (7 * j + i) = off + (7 * (c + j) + i) by omega, h6 (c + j) (by omega) i hi]
      congr 2
      simp
theorem elemE : Try.prog.elem 25 = 36 := by kernel_rfl
theorem undE : Try.prog.underlying 25 = some (.slice (Try.prog.elem 25)) := by rw [elemE]; exact Try.underlying25
theorem sizeE7 (w : World) : (sizeOf 36).run Try.prog w = .ok 7 w := by
  simp [sizeOf]
  rfl
theorem esl_upto {w : World} {a : Option Addr} {cap : Nat} {xs : List Ev} (h : ERc w (.slice a xs.length cap) xs) {d : Nat} (hd : d ≤ xs.length) :
    ∃ a' cap', (∀ w', (Instr.slice 25 (.slice a xs.length cap) none (some (.int .i64 (d : Int))) none).run Try.prog w' = .ok (.slice a' d cap') w') ∧ ERc w (.slice a' d cap') (xs.take d) := by
  have hcap : xs.length ≤ cap := by obtain ⟨a', cap', hv, h1, _⟩ := h; simp at hv; omega
  have hs := h.sliced (Nat.zero_le d) hd
  refine ⟨(if cap = 0 then a else a.map (·.add (0 * 7))), cap - 0, fun w' => ?_, hs⟩
  rw [run_slice_h _ _ _ _ _ undE _ _ (by omega) (by omega), elemE, sizeE7]
  rfl
theorem esl_from {w : World} {a : Option Addr} {cap : Nat} {xs : List Ev} (h : ERc w (.slice a xs.length cap) xs) {c : Nat} (hc : c ≤ xs.length) :
    ∃ a' cap', (∀ w', (Instr.slice 25 (.slice a xs.length cap) (some (.int .i64 (c : Int))) none none).run Try.prog w' = .ok (.slice a' (xs.length - c) cap') w') ∧ ERc w (.slice a' (xs.length - c) cap') (xs.drop c) := by
  have hcap : xs.length ≤ cap := by obtain ⟨a', cap', hv, h1, _⟩ := h; simp at hv; omega
  have hs := h.sliced hc (Nat.le_refl _)
  rw [List.take_length] at hs
  refine ⟨(if cap = c then a else a.map (·.add (c * 7))), cap - c, fun w' => ?_, hs⟩
  rw [run_slice_l _ _ _ _ _ undE _ _ (by omega) (by omega), elemE, sizeE7]
  rfl
/-- A row of one's own. -/
def OwnE (w : World) (base : Nat) (v : Value) (xs : List Ev) : Prop := w.ownsRow base 36 7 v xs.length (xs.flatMap c7)
theorem OwnE.nil (w : World) (base : Nat) : OwnE w base (.slice none 0 0) [] := World.ownsRow_nil _ _ _ _
theorem OwnE.below {w w' : World} {base : Nat} {v : Value} {xs : List Ev} (h : OwnE w base v xs) (hb : Below w.heap.size w w') : OwnE w' base v xs := by
  have hlt := World.ownsRow.lt h
  obtain ⟨h1, h2⟩ := h
  refine ⟨h1, ?_⟩
  rcases h2 with h2 | ⟨g, cap, cur, hv, hg, hw, r⟩
  · exact .inl h2
  · exact .inr ⟨g, cap, cur, hv, hg, (hb.block g (hlt g (by rw [hv]; rfl)).2).trans hw, r⟩
theorem OwnE.rc {w : World} {base : Nat} {v : Value} {xs : List Ev} (h : OwnE w base v xs) : ERc w v xs := by
  have hlt := World.ownsRow.lt h
  have hr := h
  obtain ⟨h1, h2⟩ := h
  rcases h2 with ⟨rfl, h0⟩ | ⟨g, cap, cur, hv, hg, hw, hc, hm, hs, ht⟩
  · exact ⟨none, 0, by rw [h0], by omega, by simp, .inl (List.length_eq_zero_iff.1 h0)⟩
  · rw [hv] at hr
    refine ⟨_, cap, hv, hc, hm, .inr ⟨g, 0, rfl, (hlt g (by rw [hv]; rfl)).2, fun j hj i hi => ?_⟩⟩
    rw [show 0 + (7 * j + i) = 7 * j + i by omega, World.ownsRow.cellAt hr _ (by omega), flat7 xs j i hj hi, List.getElem?_eq_getElem hi]
theorem flat_len7 (xs : List Ev) : (xs.flatMap c7).length = xs.length * 7 := by
  induction xs with
  | nil => rfl
  | cons x xs ih => rw [List.flatMap_cons, List.length_append, ih, c7_len, List.length_cons]; omega
theorem infoE : (Try.prog.info? 36).map (fun i => (i.zero.map Value.cells, i.size, i.bytes)) = some (some #[.slice none 0 0, .int .u64 0, .bool false, .int .i64 0, .int .u64 0, .int .i64 0, .int .i64 0], 7, 72) := by kernel_rfl
theorem one_c7 {w : World} (xs : List Ev) (h : EvR w xs) : ∀ u ∈ xs.flatMap c7, u.oneCell' = true := by
  intro u hu
  obtain ⟨x, hx, hu⟩ := List.mem_flatMap.1 hu
  obtain ⟨a, cap, e, _⟩ := (h x hx).1.form
  unfold c7 at hu
  rw [e] at hu
  simp at hu
  rcases hu with rfl | rfl | rfl | rfl | rfl | rfl | rfl <;> rfl
/-- Entries behind those of one's own. -/
theorem run_appE {w : World} (base : Nat) (ty : TypeId) (v sv : Value) (xs ys : List Ev) (hown : OwnE w base v xs) (hs : ERc w sv ys) (hr : EvR w ys) (hlen : xs.length + ys.length ≤ 1000000000) (hbase : base ≤ w.heap.size) :
    ∃ v' w', (Builtin.append_ #[25, 25] ty #[v, sv]).run Try.prog w = .ok v' w' ∧ OwnE w' base v' (xs ++ ys) ∧ Below base w w' := by
  have hinf := infoE
  cases hi0 : Try.prog.info? 36 with
  | none => rw [hi0] at hinf; cases hinf
  | some i0 =>
    rw [hi0] at hinf
    simp only [Option.map_some, Option.some.injEq, Prod.mk.injEq] at hinf
    obtain ⟨hz0, hz1, hz2⟩ := hinf
    obtain ⟨z, hz, hzc⟩ := Option.map_eq_some_iff.1 hz0
    obtain ⟨a, cap, rfl, h1, h2, h3⟩ := hs
    have gen : ∀ ad : Addr, (∀ j u, (ys.flatMap c7)[j]? = some u → w.cell? (ad.add j) = some u) → ∃ v' w', (Builtin.append_ #[25, 25] ty #[v, .slice (some ad) ys.length cap]).run Try.prog w = .ok v' w' ∧ OwnE w' base v' (xs ++ ys) ∧ Below base w w' := by
      intro ad hnews
      obtain ⟨v', w', hrun, ho, hg, _⟩ := run_append_own (P := Try.prog) w base 25 ty 36 i0 z 7 72 Try.underlying25 hi0 hz hz1 hz2 (by rw [hzc]; rfl) (by decide) v xs.length (xs.flatMap c7) hown ad ys.length cap (ys.flatMap c7) (flat_len7 ys) hnews (one_c7 ys hr) (by simp [maxLen]; omega) (by omega) hbase
      refine ⟨v', w', hrun, ?_, (Below.refl _ _).grown hg hbase (own_block hown)⟩
      unfold OwnE
      rw [List.length_append, List.flatMap_append]
      exact ho
    rcases h3 with rfl | ⟨b, off, rfl, h5, h6⟩
    · cases a with
      | none =>
        refine ⟨v, w, ?_, by rw [List.append_nil]; exact hown, Below.refl _ _⟩
        rcases hown.2 with ⟨rfl, _⟩ | ⟨g, cap', cur, rfl, _, _, hnc, _⟩
        · simp [Builtin.append_, run_underlying Try.underlying25, sizeOf, typeInfo, hi0, Builtin.lenOf, Builtin.firstCells]
        · simp [Builtin.append_, run_underlying Try.underlying25, sizeOf, typeInfo, hi0, Builtin.lenOf, Builtin.firstCells, hnc, storeCells]
      | some ad => exact gen ad (fun j u hj => by simp at hj)
    · refine gen ⟨b, off, none⟩ (fun j u hj => ?_)
      have hjl : j < ys.length * 7 := by
        rw [← flat_len7]
        exact (List.getElem?_eq_some_iff.1 hj).1
      have ej : j = 7 * (j / 7) + j % 7 := by omega
      have hq : j / 7 < ys.length := by omega
      have hm : j % 7 < 7 := Nat.mod_lt _ (by decide)
      have ea : (⟨b, off, none⟩ : Addr).add j = ⟨b, off + j, none⟩ := by simp [Addr.add]
      rw [ej, flat7 ys _ _ hq hm, List.getElem?_eq_getElem (by rw [c7_len]; exact hm)] at hj
      rw [ea]
      have h7 := h6 (j / 7) hq (j % 7) hm
      rw [← ej] at h7
      rw [h7]; exact hj
end Go.Proofs.Ytdamlnpfpfpeeaa

/- The reference's Put (written by mkma3.py). -/
namespace Go.Proofs.Ytdamlnpfpfpeeaa
open Go.RowKit

theorem wp_app_runE {w w' : World} {o : Oper} {a : Act} {K : Act → World → Prop} {Q : Exit → Act → World → Prop} (s x : Operand) (t ty : TypeId) (ho : o.op = .call { callee := .builtin .append, args := #[s, x], argTypes := #[t, t] }) (hty : o.type = ty) (v vx v' : Value) (hs : a.eval s = v) (hx : a.eval x = vx)
    (hrun : (Builtin.append_ #[t, t] ty #[v, vx]).run Try.prog w = .ok v' w') (h : K (a.put o.dst v') w') : o.wp Try.prog a w K Q := by
  subst hty
  unfold Oper.wp
  simp [execOp, ho, resolve, invoke, builtin, hs, hx, hrun, Result.andThen]
  exact h
theorem wpList_app_runE {w w' : World} {ops : Array Oper} {rest : List Oper} {o : Oper} {a : Act} {Q : Exit → Act → World → Prop} (hgd : o.guard = none) (s x : Operand) (t ty : TypeId) (ho : o.op = .call { callee := .builtin .append, args := #[s, x], argTypes := #[t, t] }) (hty : o.type = ty) (v vx v' : Value) (hs : a.eval s = v) (hx : a.eval x = vx)
    (hrun : (Builtin.append_ #[t, t] ty #[v, vx]).run Try.prog w = .ok v' w') (h : wpList Try.prog ops Q rest (a.put o.dst v') w') : wpList Try.prog ops Q (o :: rest) a w :=
  wpList_plain hgd fun _ hK => wp_app_runE s x t ty ho hty v vx v' hs hx hrun (hK _ _ h)
theorem gd_over {a : Ag} (h : Gd a) : a.o = true → a.c = 18446744073709551615 := by
  intro ho
  have hr := h.r
  unfold rightB at hr
  split at hr
  · rw [ho] at hr; simp at hr
  · rw [ho] at hr; simp at hr; exact hr.2
theorem below_dn (w : World) (n : Nat) : Below w.heap.size w (w.drewN n) := ⟨rfl, rfl, rfl, Nat.le_refl _, fun _ _ => rfl⟩
theorem lessNo {Y X : Ks} (h : ¬ ltK Y X) : Op.bytesLess Y X = false := less_no h
/-- The box of an entry. -/
theorem box7 {w : World} {b : Nat} {kv : Value} {a : Ag} {T : TypeId} (h : w.heap[b]? = some (.cells #[kv, .int .u64 a.c, .bool a.o, .int .i64 (hi a.s), .int .u64 (lo a.s), .int .i64 a.mn, .int .i64 a.mx] T)) :
    w.cell? ⟨b, 0, none⟩ = some kv ∧ w.cell? ⟨b, 1, none⟩ = some (.int .u64 a.c) ∧ w.cell? ⟨b, 2, none⟩ = some (.bool a.o) ∧ w.cell? ⟨b, 3, none⟩ = some (.int .i64 (hi a.s)) ∧ w.cell? ⟨b, 4, none⟩ = some (.int .u64 (lo a.s)) ∧ w.cell? ⟨b, 5, none⟩ = some (.int .i64 a.mn) ∧ w.cell? ⟨b, 6, none⟩ = some (.int .i64 a.mx) := by
  refine ⟨?_, ?_, ?_, ?_, ?_, ?_, ?_⟩ <;> simp [World.cell?, h]
theorem new7 {w : World} {kv : Value} {a : Ag} {k : Ks} {T : TypeId} : ERc (w.alloc (.cells #[kv, .int .u64 a.c, .bool a.o, .int .i64 (hi a.s), .int .u64 (lo a.s), .int .i64 a.mn, .int .i64 a.mx] T)) (.slice (some ⟨w.heap.size, 0, none⟩) 1 1) [⟨kv, k, a⟩] := by
  refine ⟨_, 1, rfl, by simp, by simp [maxLen], .inr ⟨w.heap.size, 0, rfl, by simp, fun j hj i hlt7 => ?_⟩⟩
  have e : j = 0 := by simpa using hj
  subst e
  have hn := heap_alloc_new w (.cells #[kv, .int .u64 a.c, .bool a.o, .int .i64 (hi a.s), .int .u64 (lo a.s), .int .i64 a.mn, .int .i64 a.mx] T)
  simp only [World.cell?]
  rw [hn]
  match i, hlt7 with
  | 0, _ => rfl
  | 1, _ => rfl
  | 2, _ => rfl
  | 3, _ => rfl
  | 4, _ => rfl
  | 5, _ => rfl
  | 6, _ => rfl
theorem map_take_ev (xs : List Ev) (k : Nat) : (xs.take k).map evE = (xs.map evE).take k := List.map_take ..
set_option maxRecDepth 100000 in
set_option maxHeartbeats 8000000 in
theorem refPut_own (W0 : World) (v : Value) (xs : List Ev) (kv : Value) (X : Ks) (a : Ag) (w : World) (hW : Below W0.heap.size W0 w) (hrc : ERc w v xs) (hev : EvR W0 xs) (hR : Reads W0 kv X) (hG : Gd a) (hGL : GdE (xs.map evE)) (hlen : xs.length ≤ 100000000) :
    Calls Try.prog 14 #[v, .agg #[kv, .int .u64 a.c, .bool a.o, .int .i64 (hi a.s), .int .u64 (lo a.s), .int .i64 a.mn, .int .i64 a.mx]] w fun e w' => ∃ v' ys, e = .returned v' ∧ OwnE w' w.heap.size v' ys ∧ EvR W0 ys ∧ ys.map evE = ins (X, a) (xs.map evE) ∧ Below w.heap.size w w' := by
  have HE0 : Hid (EvR W0 xs) := hev
  have HK0 : Hid (Reads W0 kv X) := hR
  have hev : EvR w xs := hev.below hW
  have hR : Reads w kv X := hR.below hW
  have HGL : Hid (GdE (xs.map evE)) := hGL
  have HEV : Hid (EvR w xs) := hev
  have HG := (show Hid _ from hG)
  obtain ⟨va, vc, rfl, hv1, hv2⟩ := hrc.form
  have HRC : Hid (ERc w (.slice va xs.length vc) xs) := hrc
  obtain ⟨ax, cx, rfl, hxl⟩ := hR.form
  have HKX : Hid (Reads w (.slice ax X.length cx) X) := hR
  unfold maxLen at hv2 hxl
  clear hR hG hGL hrc hev hW
  obtain ⟨w1, H1⟩ := hid_ex (w.alloc (.cells #[.slice ax X.length cx, .int .u64 a.c, .bool a.o, .int .i64 (hi a.s), .int .u64 (lo a.s), .int .i64 a.mn, .int .i64 a.mx] 36))
  have HX1 : Hid (w1.heap[w.heap.size]? = some (.cells #[.slice ax X.length cx, .int .u64 a.c, .bool a.o, .int .i64 (hi a.s), .int .u64 (lo a.s), .int .i64 a.mn, .int .i64 a.mx] 36)) := by rw [H1.out]; exact heap_alloc_new w _
  have HB1 : Hid (Below w.heap.size w w1) := by rw [H1.out]; exact (Below.refl _ _).alloc (Nat.le_refl _) _
  have hs1 : w.heap.size < w1.heap.size := by rw [H1.out]; simp
  go_enter Try.func14, Try.ntmps14
  go_wp2_with fail
  rw [← H1.out]
  clear H1
  go_loopw [5] (fun i wr => ∃ k : Nat, k ≤ xs.length ∧ i = .int .i64 (k : Int) ∧ Hid (∀ y ∈ xs.take k, ltK y.k X) ∧ Hid (Below w1.heap.size w1 wr)) (fun i _ => xs.length - (intOf i).toNat)
  case atStart => exact ⟨0, by omega, rfl, fun y hy => (by cases hy), Below.refl _ _⟩
  case round =>
    obtain ⟨k, hk, rfl, HLT, HBr⟩ := hrel
    have HBw : Hid (Below w.heap.size w wr) := HB1.out.trans (HBr.out.mono HB1.out.size)
    have HXr : Hid (wr.heap[w.heap.size]? = some (.cells #[.slice ax X.length cx, .int .u64 a.c, .bool a.o, .int .i64 (hi a.s), .int .u64 (lo a.s), .int .i64 a.mn, .int .i64 a.mx] 36)) := (HBr.out.block _ hs1).trans HX1.out
    obtain ⟨x0, x1, x2, x3, x4, x5, x6⟩ := box7 HXr.out
    have HRx : Hid (Reads wr (.slice ax X.length cx) X) := HKX.out.below HBw.out
    have hq2 : ∀ n, (convert 29 9 (.slice ax X.length cx)).run Try.prog (wr.drewN n) = .ok (.string ⟨X.toArray⟩) (wr.drewN n) := fun n => reads_text (HRx.out.below (below_dn _ n))
    have hsr := HBw.out.size
    by_cases hlt : k < xs.length
    · obtain ⟨b, off, rfl, hbb, hcs⟩ := (HRC.out.below HBw.out).ptr (by omega)
      obtain ⟨Y, HY⟩ := hid_ex xs[k]
      have HRY : Hid (Reads wr Y.kv Y.k ∧ CnOk Y.a) := by rw [HY.out]; exact ⟨(HEV.out _ (List.getElem_mem hlt)).1.below HBw.out, (HEV.out _ (List.getElem_mem hlt)).2⟩
      have hcs' := hcs k hlt
      rw [← HY.out] at hcs'
      obtain ⟨kY, Yk, Ya⟩ := Y
      obtain ⟨ay, cy, eY, _⟩ := HRY.out.1.form
      simp only at eY
      subst eY
      have q0 := hcs' 0 (by decide)
      have q1 := hcs' 1 (by decide)
      have q2 := hcs' 2 (by decide)
      have q3 := hcs' 3 (by decide)
      have q4 := hcs' 4 (by decide)
      have q5 := hcs' 5 (by decide)
      have q6 := hcs' 6 (by decide)
      simp only [c7, List.getElem_cons_zero, List.getElem_cons_succ] at q0 q1 q2 q3 q4 q5 q6
      rw [show off + (7 * k + 0) = off + k * 7 by omega] at q0
      rw [show off + (7 * k + 1) = off + k * 7 + 1 by omega] at q1
      rw [show off + (7 * k + 2) = off + k * 7 + 1 + 1 by omega] at q2
      rw [show off + (7 * k + 3) = off + k * 7 + 1 + 2 by omega] at q3
      rw [show off + (7 * k + 4) = off + k * 7 + 1 + 3 by omega] at q4
      rw [show off + (7 * k + 5) = off + k * 7 + 1 + 4 by omega] at q5
      rw [show off + (7 * k + 6) = off + k * 7 + 1 + 5 by omega] at q6
      have hq1 : ∀ n, (convert 29 9 (.slice ay Yk.length cy)).run Try.prog (wr.drewN n) = .ok (.string ⟨Yk.toArray⟩) (wr.drewN n) := fun n => reads_text (HRY.out.1.below (below_dn _ n))
      have hil : decide ((k : Int) < (xs.length : Int)) = true := by simp; omega
      clear hcs hcs'
      by_cases hl : ltK Yk X
      · have hle : Op.bytesLess Yk X = true := (less_iff _ _).2 hl
        have HLT2 : Hid (∀ y ∈ xs.take (k + 1), ltK y.k X) := by
          intro y hy
          rw [List.take_succ_eq_append_getElem hlt] at hy
          rcases List.mem_append.1 hy with h | h
          · exact HLT.out y h
          · obtain rfl := List.mem_singleton.1 h
            rw [← HY.out]; exact hl
        clear hl
        go_wp2_with fail
        go_quiet (fail)
        clear hq1 hq2 q0 q1 q2 q3 q4 q5 q6 x0 x1 x2 x3 x4 x5 x6
        go_wp2_with fail
        go_roundw
        case rel => exact ⟨k + 1, by omega, by go_num, HLT2.out, HBr.out.trans ⟨rfl, rfl, rfl, Nat.le_refl _, fun _ _ => rfl⟩⟩
        case measure => simp [intOf]; omega
      · have hle : Op.bytesLess Yk X = false := lessNo hl
        have HTR : Hid (Yk = X ∨ ltK X Yk) := by
          rcases ltK_tri Yk X with h | h | h
          · exact absurd h hl
          · exact .inl h
          · exact .inr h
        clear hl
        go_wp2_with fail
        go_quiet (fail)
        clear hq1 hq2 x0 x1 x2 x3 x4 x5 x6 q0 q1 q2 q3 q4 q5 q6 hle
        obtain ⟨w3, H3⟩ := hid_ex (wr.drewN nq)
        have HBw3 : Hid (Below w.heap.size w w3) := by rw [H3.out]; exact HBw.out.trans ⟨rfl, rfl, rfl, Nat.le_refl _, fun _ _ => rfl⟩
        have HX3 : Hid (w3.heap[w.heap.size]? = some (.cells #[.slice ax X.length cx, .int .u64 a.c, .bool a.o, .int .i64 (hi a.s), .int .u64 (lo a.s), .int .i64 a.mn, .int .i64 a.mx] 36)) := by rw [H3.out]; exact HXr.out
        have HRC3 : Hid (ERc w3 (.slice (some ⟨b, off, none⟩) xs.length vc) xs) := HRC.out.below HBw3.out
        have HEV3 : Hid (EvR w3 xs) := HEV.out.below HBw3.out
        have hs3 : w.heap.size < w3.heap.size := by rw [H3.out]; exact Nat.lt_of_lt_of_le hs1 HBr.out.size
        rw [← H3.out]
        clear H3
        obtain ⟨a1, c1, hsl1, hrc1⟩ := esl_upto HRC3.out (d := k) hk
        have hev1 : EvR w3 (xs.take k) := fun y hy => HEV3.out y (List.mem_of_mem_take hy)
        have hl1 : (xs.take k).length = k := by rw [List.length_take]; omega
        obtain ⟨v1, w4, hrun1, hown1, hb1⟩ := run_appE (w := w3) w3.heap.size 25 (.slice none 0 0) (.slice a1 k c1) [] (xs.take k) (OwnE.nil _ _) hrc1 hev1 (by simp; omega) (Nat.le_refl _)
        rw [List.nil_append] at hown1
        have HB4 : Hid (Below w3.heap.size w3 w4) := hb1
        obtain ⟨o1, p1, e1, _, _⟩ := hown1.rc.form
        rw [hl1] at e1
        subst e1
        have HO1 : Hid (OwnE w4 w3.heap.size (.slice o1 k p1) (xs.take k)) := hown1
        clear hown1 hb1 hrc1 hev1
        go_wp2_with (at_builtin; refine wpList_app_runE rfl _ _ _ _ rfl rfl _ _ _ rfl rfl hrun1 ?_; clear hrun1 hsl1)
        clear HBw HBr HXr HRx hsr
        have HX4 : Hid (w4.heap[w.heap.size]? = some (.cells #[.slice ax X.length cx, .int .u64 a.c, .bool a.o, .int .i64 (hi a.s), .int .u64 (lo a.s), .int .i64 a.mn, .int .i64 a.mx] 36)) := (HB4.out.block _ hs3).trans HX3.out
        obtain ⟨x0, x1, x2, x3, x4, x5, x6⟩ := box7 HX4.out
        have HRx4 : Hid (Reads w4 (.slice ax X.length cx) X) := HKX.out.below (HBw3.out.trans (HB4.out.mono HBw3.out.size))
        have hq2 : ∀ n, (convert 29 9 (.slice ax X.length cx)).run Try.prog (w4.drewN n) = .ok (.string ⟨X.toArray⟩) (w4.drewN n) := fun n => reads_text (HRx4.out.below (below_dn _ n))
        obtain ⟨b', off', eb, hbb4, hcs4⟩ := (HRC3.out.below HB4.out).ptr (by omega)
        cases eb
        have HRY4 : Hid (Reads w4 (.slice ay Yk.length cy) Yk) := by
          have h := (HEV3.out.below HB4.out) _ (List.getElem_mem hlt)
          rw [← HY.out] at h
          exact h.1
        have hq1 : ∀ n, (convert 29 9 (.slice ay Yk.length cy)).run Try.prog (w4.drewN n) = .ok (.string ⟨Yk.toArray⟩) (w4.drewN n) := fun n => reads_text (HRY4.out.below (below_dn _ n))
        have hcs' := hcs4 k hlt
        rw [← HY.out] at hcs'
        have q0 := hcs' 0 (by decide)
        have q1 := hcs' 1 (by decide)
        have q2 := hcs' 2 (by decide)
        have q3 := hcs' 3 (by decide)
        have q4 := hcs' 4 (by decide)
        have q5 := hcs' 5 (by decide)
        have q6 := hcs' 6 (by decide)
        simp only [c7, List.getElem_cons_zero, List.getElem_cons_succ] at q0 q1 q2 q3 q4 q5 q6
        rw [show off + (7 * k + 0) = off + k * 7 by omega] at q0
        rw [show off + (7 * k + 1) = off + k * 7 + 1 by omega] at q1
        rw [show off + (7 * k + 2) = off + k * 7 + 1 + 1 by omega] at q2
        rw [show off + (7 * k + 3) = off + k * 7 + 1 + 2 by omega] at q3
        rw [show off + (7 * k + 4) = off + k * 7 + 1 + 3 by omega] at q4
        rw [show off + (7 * k + 5) = off + k * 7 + 1 + 4 by omega] at q5
        rw [show off + (7 * k + 6) = off + k * 7 + 1 + 5 by omega] at q6
        clear hcs4 hcs'
        have HLTm : Hid (∀ y ∈ (xs.map evE).take k, ltK y.1 X) := by
          intro y hy
          rw [← List.map_take] at hy
          obtain ⟨z, hz, rfl⟩ := List.mem_map.1 hy
          exact HLT.out z hz
        rcases HTR.out with hYX | hYX
        · subst hYX
          have heq : (Yk == Yk) = true := by simp
          have HGY : Hid (Gd Ya) := by
            have h := HGL.out (evE xs[k]) (List.mem_map_of_mem (List.getElem_mem hlt))
            rw [← HY.out] at h
            exact h
          obtain ⟨M, HM⟩ := hid_ex (mrg Ya a)
          have HGM : Hid (CnOk M) := by rw [HM.out]; exact mrg_cnk HGY.out.c HG.out.c
          have HINS : Hid (ins (Yk, a) (xs.map evE) = (xs.map evE).take k ++ (Yk, M) :: (xs.map evE).drop (k + 1)) := by
            have e := ins_same (x := (Yk, a)) (L := xs.map evE) (k := k) (by rw [List.length_map]; exact hlt) HLTm.out (by rw [List.getElem_map, ← HY.out]; rfl)
            unfold Hid
            rw [e, HM.out, gd_comm HGY.out HG.out, List.getElem_map, ← HY.out]
            rfl
          have HMG : Hid (∀ W, Calls Try.prog 25 #[.agg #[.int .u64 Ya.c, .bool Ya.o, .int .i64 (hi Ya.s), .int .u64 (lo Ya.s), .int .i64 Ya.mn, .int .i64 Ya.mx], .agg #[.int .u64 a.c, .bool a.o, .int .i64 (hi a.s), .int .u64 (lo a.s), .int .i64 a.mn, .int .i64 a.mx]] W fun e w' => e = .returned (.agg #[.int .u64 M.c, .bool M.o, .int .i64 (hi M.s), .int .u64 (lo M.s), .int .i64 M.mn, .int .i64 M.mx]) ∧ Below W.heap.size W w') := by
            intro W
            rw [HM.out]
            exact refMerge_any Ya a HGY.out.c.1 HGY.out.c.2 HG.out.c.1 HG.out.c.2 (gd_over HGY.out) (gd_over HG.out) W
          go_quiet (fail)
          clear hq1 hq2 heq
          obtain ⟨w5, H5⟩ := hid_ex (w4.drewN nq)
          have HB45 : Hid (Below w4.heap.size w4 w5) := by rw [H5.out]; exact below_dn _ _
          have HB5 : Hid (Below w3.heap.size w3 w5) := HB4.out.trans (HB45.out.mono HB4.out.size)
          have HO5 : Hid (OwnE w5 w3.heap.size (.slice o1 k p1) (xs.take k)) := HO1.out.below HB45.out
          have HXC := (show Hid _ from box7 HX3.out)
          obtain ⟨b3, off3, eb3, hbb3, hcs3⟩ := HRC3.out.ptr (by omega)
          cases eb3
          have HQC : Hid (∀ i (h : i < 6), w3.cell? ⟨b, off + k * 7 + 1 + i, none⟩ = some ((c7 ⟨.slice ay Yk.length cy, Yk, Ya⟩)[i + 1]'(by rw [c7_len]; omega))) := by
            intro i h
            have h7 := hcs3 k hlt (i + 1) (by omega)
            rw [show off + (7 * k + (i + 1)) = off + k * 7 + 1 + i by omega] at h7
            rw [h7]
            congr 2
            rw [← HY.out]
          clear hcs3
          rw [← H5.out]
          clear H5 x0 x1 x2 x3 x4 x5 x6 q0 q1 q2 q3 q4 q5 q6 HTR
          have hkx : (k : Int) < (xs.length : Int) := by omega
          go_wp2_with fail
          refine wp_region_noPanic ?_
          refine wp_region_held_drew (S := (fun w' => Below w3.heap.size w3 w')) (by kernel_rfl) ?_ (fun hHeld => ?_)
          · exact HB5.out.drew
          refine wpAnyH_take (i := 0) (v := .slice o1 k p1) rfl (by kernel_rfl) (by kernel_rfl) (by kernel_rfl) (fun _ _ _ h => h) (Or.inl ⟨by rfl, ?_⟩) (by assumption) ?_
          · (intro w1 hSw; (try dsimp only at hSw); go_simp)
          simp only [List.getElem_toArray, List.getElem_cons_zero, Act.put, List.setIfInBounds_toArray, List.set_cons_zero, List.set_cons_succ]
          refine wpAnyH_take (i := 1) (v := .pointer (some ⟨w.heap.size, 0, none⟩)) rfl (by kernel_rfl) (by kernel_rfl) (by kernel_rfl) (fun _ _ _ h => h) (Or.inl ⟨by rfl, ?_⟩) (by assumption) ?_
          · (intro w1 hSw; (try dsimp only at hSw); go_simp)
          simp only [List.getElem_toArray, List.getElem_cons_succ, List.getElem_cons_zero, Act.put, List.setIfInBounds_toArray, List.set_cons_zero, List.set_cons_succ]
          refine wpAnyH_take (i := 2) (v := .slice ax Yk.length cx) rfl (by kernel_rfl) (by kernel_rfl) (by kernel_rfl) (fun _ _ _ h => h) (Or.inl ⟨by rfl, ?_⟩) (by assumption) ?_
          · (intro w1 hSw; (try dsimp only at hSw); have c0 := (hSw.cell (p := ⟨w.heap.size, 0, none⟩) hs3).trans HXC.out.1; go_simp)
          simp only [List.getElem_toArray, List.getElem_cons_succ, List.getElem_cons_zero, Act.put, List.setIfInBounds_toArray, List.set_cons_zero, List.set_cons_succ]
          refine wpAnyH_take (i := 3) (v := .slice (some ⟨b, off, none⟩) xs.length vc) rfl (by kernel_rfl) (by kernel_rfl) (by kernel_rfl) (fun _ _ _ h => h) (Or.inl ⟨by rfl, ?_⟩) (by assumption) ?_
          · (intro w1 hSw; (try dsimp only at hSw); go_simp)
          simp only [List.getElem_toArray, List.getElem_cons_succ, List.getElem_cons_zero, Act.put, List.setIfInBounds_toArray, List.set_cons_zero, List.set_cons_succ]
          refine wpAnyH_take (i := 4) (v := .int .i64 (k : Int)) rfl (by kernel_rfl) (by kernel_rfl) (by kernel_rfl) (fun _ _ _ h => h) (Or.inl ⟨by rfl, ?_⟩) (by assumption) ?_
          · (intro w1 hSw; (try dsimp only at hSw); go_simp)
          simp only [List.getElem_toArray, List.getElem_cons_succ, List.getElem_cons_zero, Act.put, List.setIfInBounds_toArray, List.set_cons_zero, List.set_cons_succ]
          refine wpAnyH_take (i := 5) (v := .pointer (some ⟨b, off + k * 7, none⟩)) rfl (by kernel_rfl) (by kernel_rfl) (by kernel_rfl) (fun _ _ _ h => h) (Or.inl ⟨by rfl, ?_⟩) (by assumption) ?_
          · (intro w1 hSw; (try dsimp only at hSw); go_simp)
          simp only [List.getElem_toArray, List.getElem_cons_succ, List.getElem_cons_zero, Act.put, List.setIfInBounds_toArray, List.set_cons_zero, List.set_cons_succ]
          refine wpAnyH_take (i := 6) (v := .pointer (some ⟨b, off + k * 7 + 1, none⟩)) rfl (by kernel_rfl) (by kernel_rfl) (by kernel_rfl) (fun _ _ _ h => h) (Or.inl ⟨by rfl, ?_⟩) (by assumption) ?_
          · (intro w1 hSw; (try dsimp only at hSw); go_simp)
          simp only [List.getElem_toArray, List.getElem_cons_succ, List.getElem_cons_zero, Act.put, List.setIfInBounds_toArray, List.set_cons_zero, List.set_cons_succ]
          refine wpAnyH_take (i := 7) (v := .agg #[.int .u64 Ya.c, .bool Ya.o, .int .i64 (hi Ya.s), .int .u64 (lo Ya.s), .int .i64 Ya.mn, .int .i64 Ya.mx]) rfl (by kernel_rfl) (by kernel_rfl) (by kernel_rfl) (fun _ _ _ h => h) (Or.inl ⟨by rfl, ?_⟩) (by assumption) ?_
          · (intro w1 hSw; (try dsimp only at hSw); have c1 : w1.cell? ⟨b, off + k * 7 + 1, none⟩ = some (.int .u64 Ya.c) := (hSw.cell (p := ⟨b, off + k * 7 + 1, none⟩) hbb3).trans (HQC.out 0 (by decide)); have c2 : w1.cell? ⟨b, off + k * 7 + 1 + 1, none⟩ = some (.bool Ya.o) := (hSw.cell (p := ⟨b, off + k * 7 + 1 + 1, none⟩) hbb3).trans (HQC.out 1 (by decide)); have c3 : w1.cell? ⟨b, off + k * 7 + 1 + 2, none⟩ = some (.int .i64 (hi Ya.s)) := (hSw.cell (p := ⟨b, off + k * 7 + 1 + 2, none⟩) hbb3).trans (HQC.out 2 (by decide)); have c4 : w1.cell? ⟨b, off + k * 7 + 1 + 3, none⟩ = some (.int .u64 (lo Ya.s)) := (hSw.cell (p := ⟨b, off + k * 7 + 1 + 3, none⟩) hbb3).trans (HQC.out 3 (by decide)); have c5 : w1.cell? ⟨b, off + k * 7 + 1 + 4, none⟩ = some (.int .i64 Ya.mn) := (hSw.cell (p := ⟨b, off + k * 7 + 1 + 4, none⟩) hbb3).trans (HQC.out 4 (by decide)); have c6 : w1.cell? ⟨b, off + k * 7 + 1 + 5, none⟩ = some (.int .i64 Ya.mx) := (hSw.cell (p := ⟨b, off + k * 7 + 1 + 5, none⟩) hbb3).trans (HQC.out 5 (by decide)); go_simp)
          simp only [List.getElem_toArray, List.getElem_cons_succ, List.getElem_cons_zero, Act.put, List.setIfInBounds_toArray, List.set_cons_zero, List.set_cons_succ]
          refine wpAnyH_take (i := 8) (v := .pointer (some ⟨w.heap.size, 1, none⟩)) rfl (by kernel_rfl) (by kernel_rfl) (by kernel_rfl) (fun _ _ _ h => h) (Or.inl ⟨by rfl, ?_⟩) (by assumption) ?_
          · (intro w1 hSw; (try dsimp only at hSw); go_simp)
          simp only [List.getElem_toArray, List.getElem_cons_succ, List.getElem_cons_zero, Act.put, List.setIfInBounds_toArray, List.set_cons_zero, List.set_cons_succ]
          refine wpAnyH_take (i := 9) (v := .agg #[.int .u64 a.c, .bool a.o, .int .i64 (hi a.s), .int .u64 (lo a.s), .int .i64 a.mn, .int .i64 a.mx]) rfl (by kernel_rfl) (by kernel_rfl) (by kernel_rfl) (fun _ _ _ h => h) (Or.inl ⟨by rfl, ?_⟩) (by assumption) ?_
          · (intro w1 hSw; (try dsimp only at hSw); have c1 := (hSw.cell (p := ⟨w.heap.size, 1, none⟩) hs3).trans HXC.out.2.1; have c2 := (hSw.cell (p := ⟨w.heap.size, 2, none⟩) hs3).trans HXC.out.2.2.1; have c3 := (hSw.cell (p := ⟨w.heap.size, 3, none⟩) hs3).trans HXC.out.2.2.2.1; have c4 := (hSw.cell (p := ⟨w.heap.size, 4, none⟩) hs3).trans HXC.out.2.2.2.2.1; have c5 := (hSw.cell (p := ⟨w.heap.size, 5, none⟩) hs3).trans HXC.out.2.2.2.2.2.1; have c6 := (hSw.cell (p := ⟨w.heap.size, 6, none⟩) hs3).trans HXC.out.2.2.2.2.2.2; go_simp)
          simp only [List.getElem_toArray, List.getElem_cons_succ, List.getElem_cons_zero, Act.put, List.setIfInBounds_toArray, List.set_cons_zero, List.set_cons_succ]
          refine wpAnyH_ready (rs := [10]) (by kernel_rfl) (by simp) ?_
          refine AllReadyH.cons (o := _) rfl (fun K hK => ?_) AllReadyH.nil
          go_simp
          refine (HMG.out _).mono ?_
          rintro e w6 ⟨rfl, hb6'⟩
          have hb56 : Below w5.heap.size w5 w6 := (Below.refl _ _).drew.trans hb6'
          have HB6 : Hid (Below w3.heap.size w3 w6) := HB5.out.trans (hb56.mono HB5.out.size)
          have HB46 : Hid (Below w4.heap.size w4 w6) := HB45.out.trans (hb56.mono HB45.out.size)
          have HO6 : Hid (OwnE w6 w3.heap.size (.slice o1 k p1) (xs.take k)) := HO5.out.below hb56
          clear hb6' hb56
          go_simp
          refine hK.out _ _ ?_ (fun hHeld => ?_)
          · exact HB6.out
          clear hK K
          refine wpAnyH_take (i := 11) (v := .agg #[.slice ax Yk.length cx, .int .u64 M.c, .bool M.o, .int .i64 (hi M.s), .int .u64 (lo M.s), .int .i64 M.mn, .int .i64 M.mx]) rfl (by kernel_rfl) (by kernel_rfl) (by kernel_rfl) (fun _ _ _ h => h) (Or.inl ⟨by rfl, ?_⟩) (by assumption) ?_
          · (intro w1 hSw; (try dsimp only at hSw); go_simp)
          simp only [List.getElem_toArray, List.getElem_cons_succ, List.getElem_cons_zero, Act.put, List.setIfInBounds_toArray, List.set_cons_zero, List.set_cons_succ]
          obtain ⟨v2, w7, hrun2, hown2, hb2⟩ := run_appE (w := w6.alloc (.cells #[.slice ax Yk.length cx, .int .u64 M.c, .bool M.o, .int .i64 (hi M.s), .int .u64 (lo M.s), .int .i64 M.mn, .int .i64 M.mx] 36)) w3.heap.size 25 (.slice o1 k p1) (.slice (some ⟨w6.heap.size, 0, none⟩) 1 1) (xs.take k) [⟨.slice ax Yk.length cx, Yk, M⟩] (World.ownsRow.alloc HO6.out _) new7 (fun y hy => by
            obtain rfl := List.mem_singleton.1 hy
            exact ⟨HKX.out.below (HBw3.out.trans ((HB6.out.mono HBw3.out.size).alloc (Nat.le_trans HBw3.out.size HB6.out.size) _)), HGM.out⟩) (by rw [List.length_take]; simp; omega) (by have := HB6.out.size; simp; omega)
          have HB7 : Hid (Below w3.heap.size w3 w7) := (HB6.out.alloc HB6.out.size _).trans hb2
          have hs34 : w3.heap.size ≤ w4.heap.size := HB4.out.size
          obtain ⟨o2, p2, e2, _, _⟩ := hown2.rc.form
          have hl2 : (xs.take k ++ [(⟨.slice ax Yk.length cx, Yk, M⟩ : Ev)]).length = k + 1 := by rw [List.length_append, List.length_take]; simp; omega
          rw [hl2] at e2
          subst e2
          have HO7 : Hid (OwnE w7 w3.heap.size (.slice o2 (k + 1) p2) (xs.take k ++ [(⟨.slice ax Yk.length cx, Yk, M⟩ : Ev)])) := hown2
          clear hown2 hb2
          refine wpAnyH_ready (rs := [12]) (by kernel_rfl) (by simp) ?_
          refine AllReadyH.cons (o := _) rfl (fun K hK => ?_) AllReadyH.nil
          go_simp
          refine hK.out _ _ ?_ (fun hHeld => ?_)
          · exact HB6.out.alloc HB6.out.size _
          clear hK K
          refine wpAnyH_ready (rs := [13]) (by kernel_rfl) (by simp) ?_
          refine AllReadyH.cons (o := _) rfl (fun K hK => ?_) AllReadyH.nil
          refine wp_app_runE _ _ _ _ (by rfl) (by rfl) _ _ _ (by rfl) (by rfl) hrun2 ?_
          clear hrun2
          simp only [List.getElem_toArray, List.getElem_cons_succ, List.getElem_cons_zero, Act.put, List.setIfInBounds_toArray, List.set_cons_zero, List.set_cons_succ]
          refine hK.out _ _ ?_ (fun hHeld => ?_)
          · exact HB7.out
          clear hK K
          refine wpAnyH_ready (rs := [14]) (by kernel_rfl) (by simp) ?_
          refine AllReadyH.cons (o := _) rfl (fun K hK => ?_) AllReadyH.nil
          go_simp
          refine hK.out _ _ ?_ (fun hHeld => ?_)
          · exact HB7.out
          clear hK K
          refine wpAnyH_done (by kernel_rfl) ?_ _
          refine NoPanic.normal ?_
          clear hHeld
          obtain ⟨a3, c3, hsl3, hrc3⟩ := esl_from (HRC3.out.below HB7.out) (c := k + 1) (by omega)
          have hev3 : EvR w7 (xs.drop (k + 1)) := fun y hy => (HEV3.out.below HB7.out) y (List.mem_of_mem_drop hy)
          obtain ⟨v3, w8, hrun3, hown3, hb3⟩ := run_appE (w := w7) w3.heap.size 25 (.slice o2 (k + 1) p2) (.slice a3 (xs.length - (k + 1)) c3) _ (xs.drop (k + 1)) HO7.out hrc3 hev3 (by rw [hl2, List.length_drop]; omega) (HB7.out.size)
          have HO8 : Hid (OwnE w8 w3.heap.size v3 (xs.take k ++ [(⟨.slice ax Yk.length cx, Yk, M⟩ : Ev)] ++ xs.drop (k + 1))) := hown3
          have HB8 : Hid (Below w3.heap.size w3 w8) := HB7.out.trans hb3
          obtain ⟨nk, Hnk⟩ := hid_ex (xs.length - (k + 1))
          rw [← Hnk.out] at hsl3 hrun3
          have ek1 : ((k + 1 : Nat) : Int) = (k : Int) + 1 := by omega
          rw [ek1] at hsl3
          clear hown3 hb3 hrc3 hev3 hl2 ek1
          go_wp2_with (at_builtin; refine wpList_app_runE rfl _ _ _ _ rfl rfl _ _ _ rfl rfl hrun3 ?_; clear hrun3 hsl3)
          go_ret
          refine ⟨_, _, rfl, own_mono HO8.out HBw3.out.size, fun y hy => ?_, ?_, HBw3.out.trans (HB8.out.mono HBw3.out.size)⟩
          · rcases List.mem_append.1 hy with hy | hy
            · rcases List.mem_append.1 hy with hy | hy
              · exact HE0.out y (List.mem_of_mem_take hy)
              · obtain rfl := List.mem_singleton.1 hy
                exact ⟨HK0.out, HGM.out⟩
            · exact HE0.out y (List.mem_of_mem_drop hy)
          · rw [HINS.out]
            have e : (xs.take k ++ [(⟨.slice ax Yk.length cx, Yk, M⟩ : Ev)] ++ xs.drop (k + 1)).map evE = (xs.map evE).take k ++ (Yk, M) :: (xs.map evE).drop (k + 1) := by
              rw [List.map_append, List.map_append, List.map_take, List.map_drop, List.append_assoc]; rfl
            exact e
        · have hne : (Yk == X) = false := beq_eq_false_iff_ne.2 (fun e => ltK_irrefl X (by rw [e] at hYX; exact hYX))
          have HINS : Hid (ins (X, a) (xs.map evE) = (xs.map evE).take k ++ (X, a) :: (xs.map evE).drop k) := by
            refine ins_new (by rw [List.length_map]; exact hlt) HLTm.out ?_
            rw [List.getElem_map, ← HY.out]; exact hYX
          clear hYX
          go_quiet (fail)
          clear hq1 hq2 q0 q1 q2 q3 q4 q5 q6 x0 x1 x2 x3 x4 x5 x6 hne
          obtain ⟨w5, H5⟩ := hid_ex (w4.drewN nq)
          have HB5 : Hid (Below w3.heap.size w3 w5) := by rw [H5.out]; exact HB4.out.trans ⟨rfl, rfl, rfl, Nat.le_refl _, fun _ _ => rfl⟩
          have HO5 : Hid (OwnE w5 w3.heap.size (.slice o1 k p1) (xs.take k)) := by rw [H5.out]; exact HO1.out.below (below_dn _ _)
          rw [← H5.out]
          clear H5 HB4 HO1
          have HX5 : Hid (w5.heap[w.heap.size]? = some (.cells #[.slice ax X.length cx, .int .u64 a.c, .bool a.o, .int .i64 (hi a.s), .int .u64 (lo a.s), .int .i64 a.mn, .int .i64 a.mx] 36)) := (HB5.out.block _ hs3).trans HX3.out
          obtain ⟨x0, x1, x2, x3, x4, x5, x6⟩ := box7 HX5.out
          obtain ⟨v2, w6, hrun2, hown2, hb2⟩ := run_appE (w := w5.alloc (.cells #[.slice ax X.length cx, .int .u64 a.c, .bool a.o, .int .i64 (hi a.s), .int .u64 (lo a.s), .int .i64 a.mn, .int .i64 a.mx] 36)) w3.heap.size 25 (.slice o1 k p1) (.slice (some ⟨w5.heap.size, 0, none⟩) 1 1) (xs.take k) [⟨.slice ax X.length cx, X, a⟩] (World.ownsRow.alloc HO5.out _) new7 (fun y hy => by
            obtain rfl := List.mem_singleton.1 hy
            exact ⟨HKX.out.below (HBw3.out.trans ((HB5.out.mono HBw3.out.size).alloc (Nat.le_trans HBw3.out.size HB5.out.size) _)), HG.out.c⟩) (by rw [List.length_take]; simp; omega) (by have := HB5.out.size; simp; omega)
          have HB6 : Hid (Below w3.heap.size w3 w6) := (HB5.out.alloc HB5.out.size _).trans hb2
          obtain ⟨o2, p2, e2, _, _⟩ := hown2.rc.form
          have hl2 : (xs.take k ++ [(⟨.slice ax X.length cx, X, a⟩ : Ev)]).length = k + 1 := by rw [List.length_append, List.length_take]; simp; omega
          rw [hl2] at e2
          subst e2
          have HO6 : Hid (OwnE w6 w3.heap.size (.slice o2 (k + 1) p2) (xs.take k ++ [(⟨.slice ax X.length cx, X, a⟩ : Ev)])) := hown2
          obtain ⟨a3, c3, hsl3, hrc3⟩ := esl_from (HRC3.out.below HB6.out) (c := k) hk
          have hev3 : EvR w6 (xs.drop k) := fun y hy => (HEV3.out.below HB6.out) y (List.mem_of_mem_drop hy)
          obtain ⟨v3, w7, hrun3, hown3, hb3⟩ := run_appE (w := w6) w3.heap.size 25 (.slice o2 (k + 1) p2) (.slice a3 (xs.length - k) c3) _ (xs.drop k) HO6.out hrc3 hev3 (by rw [hl2, List.length_drop]; omega) (HB6.out.size)
          have HO7 : Hid (OwnE w7 w3.heap.size v3 (xs.take k ++ [(⟨.slice ax X.length cx, X, a⟩ : Ev)] ++ xs.drop k)) := hown3
          have HB7 : Hid (Below w3.heap.size w3 w7) := HB6.out.trans hb3
          obtain ⟨nk, Hnk⟩ := hid_ex (xs.length - k)
          rw [← Hnk.out] at hsl3 hrun3
          clear hown2 hb2 hown3 hb3 hrc3 hev3 hl2
          go_wp2_with (at_builtin; first | (refine wpList_app_runE rfl _ _ _ _ rfl rfl _ _ _ rfl rfl hrun2 ?_; clear hrun2 x0 x1 x2 x3 x4 x5 x6) | (refine wpList_app_runE rfl _ _ _ _ rfl rfl _ _ _ rfl rfl hrun3 ?_; clear hrun3 hsl3))
          go_ret
          refine ⟨_, _, rfl, own_mono HO7.out HBw3.out.size, fun y hy => ?_, ?_, HBw3.out.trans (HB7.out.mono HBw3.out.size)⟩
          · rcases List.mem_append.1 hy with hy | hy
            · rcases List.mem_append.1 hy with hy | hy
              · exact HE0.out y (List.mem_of_mem_take hy)
              · obtain rfl := List.mem_singleton.1 hy
                exact ⟨HK0.out, HG.out.c⟩
            · exact HE0.out y (List.mem_of_mem_drop hy)
          · rw [HINS.out]
            have e : (xs.take k ++ [(⟨.slice ax X.length cx, X, a⟩ : Ev)] ++ xs.drop k).map evE = (xs.map evE).take k ++ (X, a) :: (xs.map evE).drop k := by
              rw [List.map_append, List.map_append, List.map_take, List.map_drop, List.append_assoc]; rfl
            rw [e]
    · skip
      have hke : k = xs.length := by omega
      have hil : decide ((k : Int) < (xs.length : Int)) = false := by simp; omega
      have HLTm : Hid (∀ y ∈ xs.map evE, ltK y.1 X) := by
        intro y hy
        obtain ⟨z, hz, rfl⟩ := List.mem_map.1 hy
        exact HLT.out z (by rw [hke, List.take_length]; exact hz)
      have HKE : Hid (k = xs.length) := hke
      clear hq2 x0 x1 x2 x3 x4 x5 x6 hke
      go_wp2_with fail
      go_quiet (fail)
      obtain ⟨w3, H3⟩ := hid_ex (wr.drewN nq)
      have HBw3 : Hid (Below w.heap.size w w3) := by rw [H3.out]; exact HBw.out.trans ⟨rfl, rfl, rfl, Nat.le_refl _, fun _ _ => rfl⟩
      have HX3 : Hid (w3.heap[w.heap.size]? = some (.cells #[.slice ax X.length cx, .int .u64 a.c, .bool a.o, .int .i64 (hi a.s), .int .u64 (lo a.s), .int .i64 a.mn, .int .i64 a.mx] 36)) := by rw [H3.out]; exact HXr.out
      have HRC3 : Hid (ERc w3 (.slice va xs.length vc) xs) := HRC.out.below HBw3.out
      have HEV3 : Hid (EvR w3 xs) := HEV.out.below HBw3.out
      have hs3 : w.heap.size < w3.heap.size := by rw [H3.out]; exact Nat.lt_of_lt_of_le hs1 HBr.out.size
      rw [← H3.out]
      clear H3
      obtain ⟨a1, c1, hsl1, hrc1⟩ := esl_upto HRC3.out (d := k) hk
      have hev1 : EvR w3 (xs.take k) := fun y hy => HEV3.out y (List.mem_of_mem_take hy)
      have hl1 : (xs.take k).length = k := by rw [List.length_take]; omega
      obtain ⟨v1, w4, hrun1, hown1, hb1⟩ := run_appE (w := w3) w3.heap.size 25 (.slice none 0 0) (.slice a1 k c1) [] (xs.take k) (OwnE.nil _ _) hrc1 hev1 (by simp; omega) (Nat.le_refl _)
      rw [List.nil_append] at hown1
      have HB4 : Hid (Below w3.heap.size w3 w4) := hb1
      obtain ⟨o1, p1, e1, _, _⟩ := hown1.rc.form
      rw [hl1] at e1
      subst e1
      have HO1 : Hid (OwnE w4 w3.heap.size (.slice o1 k p1) (xs.take k)) := hown1
      clear hown1 hb1 hrc1 hev1
      go_wp2_with (at_builtin; refine wpList_app_runE rfl _ _ _ _ rfl rfl _ _ _ rfl rfl hrun1 ?_; clear hrun1 hsl1)
      clear HBw HBr HXr HRx hsr
      go_quiet (fail)
      obtain ⟨w5, H5⟩ := hid_ex (w4.drewN nq)
      have HB5 : Hid (Below w3.heap.size w3 w5) := by rw [H5.out]; exact HB4.out.trans ⟨rfl, rfl, rfl, Nat.le_refl _, fun _ _ => rfl⟩
      have HO5 : Hid (OwnE w5 w3.heap.size (.slice o1 k p1) (xs.take k)) := by rw [H5.out]; exact HO1.out.below (below_dn _ _)
      rw [← H5.out]
      clear H5 HB4 HO1
      have HX5 : Hid (w5.heap[w.heap.size]? = some (.cells #[.slice ax X.length cx, .int .u64 a.c, .bool a.o, .int .i64 (hi a.s), .int .u64 (lo a.s), .int .i64 a.mn, .int .i64 a.mx] 36)) := (HB5.out.block _ hs3).trans HX3.out
      obtain ⟨x0, x1, x2, x3, x4, x5, x6⟩ := box7 HX5.out
      obtain ⟨v2, w6, hrun2, hown2, hb2⟩ := run_appE (w := w5.alloc (.cells #[.slice ax X.length cx, .int .u64 a.c, .bool a.o, .int .i64 (hi a.s), .int .u64 (lo a.s), .int .i64 a.mn, .int .i64 a.mx] 36)) w3.heap.size 25 (.slice o1 k p1) (.slice (some ⟨w5.heap.size, 0, none⟩) 1 1) (xs.take k) [⟨.slice ax X.length cx, X, a⟩] (World.ownsRow.alloc HO5.out _) new7 (fun y hy => by
        obtain rfl := List.mem_singleton.1 hy
        exact ⟨HKX.out.below (HBw3.out.trans ((HB5.out.mono HBw3.out.size).alloc (Nat.le_trans HBw3.out.size HB5.out.size) _)), HG.out.c⟩) (by rw [List.length_take]; simp; omega) (by have := HB5.out.size; simp; omega)
      have HB6 : Hid (Below w3.heap.size w3 w6) := (HB5.out.alloc HB5.out.size _).trans hb2
      obtain ⟨o2, p2, e2, _, _⟩ := hown2.rc.form
      have hl2 : (xs.take k ++ [(⟨.slice ax X.length cx, X, a⟩ : Ev)]).length = k + 1 := by rw [List.length_append, List.length_take]; simp; omega
      rw [hl2] at e2
      subst e2
      have HO6 : Hid (OwnE w6 w3.heap.size (.slice o2 (k + 1) p2) (xs.take k ++ [(⟨.slice ax X.length cx, X, a⟩ : Ev)])) := hown2
      obtain ⟨a3, c3, hsl3, hrc3⟩ := esl_from (HRC3.out.below HB6.out) (c := k) hk
      have hev3 : EvR w6 (xs.drop k) := fun y hy => (HEV3.out.below HB6.out) y (List.mem_of_mem_drop hy)
      obtain ⟨v3, w7, hrun3, hown3, hb3⟩ := run_appE (w := w6) w3.heap.size 25 (.slice o2 (k + 1) p2) (.slice a3 (xs.length - k) c3) _ (xs.drop k) HO6.out hrc3 hev3 (by rw [hl2, List.length_drop]; omega) (HB6.out.size)
      have HO7 : Hid (OwnE w7 w3.heap.size v3 (xs.take k ++ [(⟨.slice ax X.length cx, X, a⟩ : Ev)] ++ xs.drop k)) := hown3
      have HB7 : Hid (Below w3.heap.size w3 w7) := HB6.out.trans hb3
      obtain ⟨nk, Hnk⟩ := hid_ex (xs.length - k)
      rw [← Hnk.out] at hsl3 hrun3
      clear hown2 hb2 hown3 hb3 hrc3 hev3 hl2
      go_wp2_with (at_builtin; first | (refine wpList_app_runE rfl _ _ _ _ rfl rfl _ _ _ rfl rfl hrun2 ?_; clear hrun2 x0 x1 x2 x3 x4 x5 x6) | (refine wpList_app_runE rfl _ _ _ _ rfl rfl _ _ _ rfl rfl hrun3 ?_; clear hrun3 hsl3))
      go_ret
      refine ⟨_, _, rfl, own_mono HO7.out HBw3.out.size, fun y hy => ?_, ?_, HBw3.out.trans (HB7.out.mono HBw3.out.size)⟩
      · rcases List.mem_append.1 hy with hy | hy
        · rcases List.mem_append.1 hy with hy | hy
          · exact HE0.out y (List.mem_of_mem_take hy)
          · obtain rfl := List.mem_singleton.1 hy
            exact ⟨HK0.out, HG.out.c⟩
        · exact HE0.out y (List.mem_of_mem_drop hy)
      · rw [ins_behind (X, a) (xs.map evE) HLTm.out]
        have e : (xs.take k ++ [(⟨.slice ax X.length cx, X, a⟩ : Ev)] ++ xs.drop k).map evE = (xs.map evE).take k ++ (X, a) :: (xs.map evE).drop k := by
          rw [List.map_append, List.map_append, List.map_take, List.map_drop, List.append_assoc]; rfl
        rw [e]
        rw [HKE.out]
        rw [List.take_of_length_le (by simp), List.drop_eq_nil_of_le (by simp)]
end Go.Proofs.Ytdamlnpfpfpeeaa

/- The reference's All. -/
namespace Go.Proofs.Ytdamlnpfpfpeeaa
open Go.RowKit

theorem putA_len (M : List En) : (putA M).length ≤ M.length := by
  rw [putA_rev]
  have := can_len M.reverse
  simpa using this
theorem putA_gd {M : List En} (h : GdE M) : GdE (putA M) := by
  rw [putA_rev]
  exact can_gd (fun y hy => h y (List.mem_reverse.1 hy))
theorem flat_take (rs : List (List En)) (i : Nat) (hi : i < rs.length) : (rs.take (i + 1)).flatten = (rs.take i).flatten ++ rs[i] := by
  rw [List.take_succ_eq_append_getElem hi, List.flatten_append]; simp
theorem flat_take_le (rs : List (List En)) (i k : Nat) (hi : i < rs.length) : ((rs.take i).flatten ++ rs[i].take k).length ≤ rs.flatten.length := by
  have h : rs.flatten = (rs.take i).flatten ++ (rs[i] ++ (rs.drop (i + 1)).flatten) := by
    conv => lhs; rw [← List.take_append_drop i rs]
    rw [List.flatten_append, List.drop_eq_getElem_cons hi, List.flatten_cons]
  rw [h]
  simp
  omega
theorem flat_take_mem {rs : List (List En)} {i k : Nat} (hi : i < rs.length) (h : GdR rs) : GdE ((rs.take i).flatten ++ rs[i].take k) := by
  intro y hy
  rcases List.mem_append.1 hy with hy | hy
  · obtain ⟨r, hr, hy⟩ := List.mem_flatten.1 hy
    exact h r (List.mem_of_mem_take hr) y hy
  · exact h rs[i] (List.getElem_mem hi) y (List.mem_of_mem_take hy)
def RaPost (W0 : World) (rs : List (List En)) (w : World) (e : Ending) (w' : World) : Prop :=
  Below w.heap.size w w' ∧ ((rowsF rs ≠ 0 ∧ e = .returned (.tuple #[.slice none 0 0, .int .i64 (rowsF rs)])) ∨ (rowsF rs = 0 ∧ ∃ v ys, e = .returned (.tuple #[v, .int .i64 0]) ∧ OwnE w' w.heap.size v ys ∧ EvR W0 ys ∧ ys.map evE = putA rs.flatten))
set_option maxRecDepth 100000 in
set_option maxHeartbeats 4000000 in
theorem refAll_any (W0 : World) (v : Value) (rs : List (List En)) (w : World) (hW : Below W0.heap.size W0 w) (hR : RReads W0 v rs) (hg : rowsF rs = 0 → GdR rs) (hlen : rs.flatten.length ≤ 100000000) :
    Calls Try.prog 7 #[v] w (RaPost W0 rs w) := by
  have hR0 := hR
  obtain ⟨av, cv, rfl, hl1, hl2, _⟩ := hR
  have HR : Hid (RReads W0 (.slice av rs.length cv) rs) := hR0
  have HRw : Hid (RReads w (.slice av rs.length cv) rs) := hR0.below hW
  have HW : Hid (Below W0.heap.size W0 w) := hW
  clear hR0 hW
  unfold maxLen at hl2
  go_enter Try.func7, Try.ntmps7
  go_wp2_with fail
  refine (refRows_any _ rs _ HRw.out).mono ?_
  rintro e w1 ⟨rfl, hb1⟩
  have HB1 : Hid (Below w.heap.size w w1) := hb1
  clear hb1
  by_cases hz : rowsF rs = 0
  · have HG : Hid (GdR rs) := hg hz
    have HZ : Hid (rowsF rs = 0) := hz
    clear hg
    rw [hz]
    clear hz
    go_wp2_with fail
    go_loopw [5, 6] (fun o i wr => ∃ (n : Nat) (ys : List Ev), n ≤ rs.length ∧ i = .int .i64 (n : Int) ∧ Hid (OwnE wr w.heap.size o ys) ∧ Hid (EvR W0 ys) ∧ Hid (ys.map evE = putA (rs.take n).flatten) ∧ Hid (Below w.heap.size w wr)) (fun _ i _ => rs.length - (intOf i).toNat)
    case atStart => exact ⟨0, [], by omega, rfl, OwnE.nil _ _, (fun x hx => by cases hx), rfl, HB1.out⟩
    case round =>
      obtain ⟨n, ys, hn, rfl, HO, HE, HM, HB⟩ := hrel
      by_cases hlt : n < rs.length
      · obtain ⟨rb, ro, rfl⟩ := rReads_ptr HR.out (by omega)
        obtain ⟨ev, hcv, hev⟩ := rReads_at HR.out hlt
        obtain ⟨ea, ec, rfl, hle1, hle2⟩ := hev.form
        unfold maxLen at hle2
        have HEV : Hid (EReads W0 (.slice ea rs[n].length ec) rs[n]) := hev
        have hrb : rb < W0.heap.size := by
          obtain ⟨b, off, cap, e, hb⟩ := rReads_some HR.out (by omega)
          simp at e
          omega
        have HCV : Hid (W0.cell? ⟨rb, ro + n, none⟩ = some (.slice ea rs[n].length ec)) := hcv
        have HFT : Hid (∀ k, ((rs.take n).flatten ++ rs[n].take k).length ≤ rs.flatten.length) := fun k => flat_take_le rs n k hlt
        have HFG : Hid (∀ k, GdE ((rs.take n).flatten ++ rs[n].take k)) := fun k => flat_take_mem hlt HG.out
        have HFN : Hid ((rs.take (n + 1)).flatten = (rs.take n).flatten ++ rs[n]) := flat_take rs n hlt
        have HGR : Hid (GdE rs[n]) := HG.out _ (List.getElem_mem hlt)
        obtain ⟨F0, HF0⟩ := hid_ex (rs.take n).flatten
        obtain ⟨r, Hr⟩ := hid_ex rs[n]
        rw [← HF0.out] at HM HFT HFG HFN
        rw [← Hr.out] at HEV HCV HFT HFG HFN HGR hle1
        clear hev hcv Hr HF0
        have HLT : Hid (n < rs.length) := hlt
        go_wp2_with fail
        go_loopw [5, 7] (fun o i wq => ∃ (k : Nat) (ys : List Ev), k ≤ r.length ∧ i = .int .i64 (k : Int) ∧ Hid (OwnE wq w.heap.size o ys) ∧ Hid (EvR W0 ys) ∧ Hid (ys.map evE = putA (F0 ++ r.take k)) ∧ Hid (Below w.heap.size w wq)) (fun _ i _ => r.length - (intOf i).toNat)
        case atStart => exact ⟨0, ys, by omega, rfl, HO.out, HE.out, by rw [List.take_zero, List.append_nil]; exact HM.out, HB.out⟩
        case round =>
          clear HO HE HM HB
          obtain ⟨k, ys, hk, rfl, HO, HE, HM, HB⟩ := hrel
          have HBW : Hid (Below W0.heap.size W0 wr) := HW.out.trans (HB.out.mono HW.out.size)
          have hcr : wr.cell? ⟨rb, ro + n, none⟩ = some (.slice ea r.length ec) := (HBW.out.cell (p := ⟨rb, _, none⟩) hrb).trans HCV.out
          by_cases hkr : k < r.length
          · obtain ⟨b, off, rfl⟩ := eReads_ptr HEV.out (by omega)
            obtain ⟨kv, hc0, hRk, _⟩ := eReads_at HEV.out hkr rfl
            have hbl : b < W0.heap.size := by
              obtain ⟨b', off', cap', e', hb'⟩ := eReads_some HEV.out (by omega)
              simp at e'
              omega
            have hc : ∀ i (h : i < 7), wr.cell? ⟨b, off + k * 7 + i, none⟩ = some ((c7 ⟨kv, r[k].1, r[k].2⟩)[i]'h) := fun i h => (HBW.out.cell (p := ⟨b, _, none⟩) hbl).trans (hc0 i h)
            have HRK : Hid (Reads W0 kv r[k].1) := hRk
            clear hc0
            have HGK : Hid (Gd r[k].2) := HGR.out _ (List.getElem_mem hkr)
            have HSN : Hid (putA (F0 ++ r.take (k + 1)) = ins r[k] (putA (F0 ++ r.take k))) := by
              unfold Hid
              rw [List.take_succ_eq_append_getElem hkr, ← List.append_assoc, putA_snoc]
            obtain ⟨X, HX⟩ := hid_ex r[k]
            rw [← HX.out] at HRK HGK HSN hc
            obtain ⟨Xk, Xa⟩ := X
            have q0 := hc 0 (by decide)
            have q1 := hc 1 (by decide)
            have q2 := hc 2 (by decide)
            have q3 := hc 3 (by decide)
            have q4 := hc 4 (by decide)
            have q5 := hc 5 (by decide)
            have q6 := hc 6 (by decide)
            simp only [c7, List.getElem_cons_zero, List.getElem_cons_succ, Nat.add_zero] at q0 q1 q2 q3 q4 q5 q6
            clear hc hRk HX
            have HL : Hid (ys.length ≤ 100000000) := by
              unfold Hid
              rw [← List.length_map (f := evE), HM.out]
              have h1 := putA_len (F0 ++ r.take k)
              have h2 := HFT.out k
              omega
            have HGP : Hid (GdE (ys.map evE)) := by unfold Hid; rw [HM.out]; exact putA_gd (HFG.out k)
            rw [← HM.out] at HSN
            obtain ⟨oa, oc, rfl, _⟩ := HO.out.rc.form
            obtain ⟨ka, kc, rfl, _⟩ := HRK.out.form
            go_wp2_with fail
            refine (refPut_own W0 _ ys _ Xk Xa _ HBW.out HO.out.rc HE.out HRK.out HGK.out HGP.out HL.out).mono ?_
            rintro e w4 ⟨v', zs, rfl, hO4, hE4, hm4, hb4⟩
            have HO4 : Hid (OwnE w4 w.heap.size v' zs) := own_mono hO4 HB.out.size
            have HE4 : Hid (EvR W0 zs) := hE4
            have HM4 : Hid (zs.map evE = putA (F0 ++ r.take (k + 1))) := by unfold Hid; rw [HSN.out]; exact hm4
            have HB4 : Hid (Below w.heap.size w w4) := HB.out.trans (hb4.mono HB.out.size)
            clear hO4 hE4 hm4 hb4 q0 q1 q2 q3 q4 q5 q6 hcr
            go_wp2_with fail
            go_roundw
            case rel => exact ⟨k + 1, zs, by omega, by go_num, HO4.out, HE4.out, HM4.out, HB4.out⟩
            case measure => simp [intOf]; omega
          · have HFE : Hid (F0 ++ r.take k = (rs.take (n + 1)).flatten) := by
              unfold Hid
              rw [HFN.out, List.take_of_length_le (by omega)]
            go_wp2_with fail
            go_roundw
            case rel => exact ⟨n + 1, ys, by have := HLT.out; omega, by go_num, HO.out, HE.out, by rw [← HFE.out]; exact HM.out, HB.out⟩
            case measure => have := HLT.out; simp [intOf]; omega
      · have HFE : Hid ((rs.take n).flatten = rs.flatten) := by
          unfold Hid
          rw [List.take_of_length_le (by omega)]
        go_wp2_with fail
        go_ret2
        exact ⟨HB.out, .inr ⟨HZ.out, _, ys, rfl, HO.out, HE.out, by rw [← HFE.out]; exact HM.out⟩⟩
  · have hz0 : (rowsF rs == 0) = false := by simpa using hz
    have HZ : Hid (rowsF rs ≠ 0) := hz
    obtain ⟨E, HE⟩ := hid_ex (rowsF rs)
    rw [← HE.out] at hz0 ⊢
    clear hg hz
    go_wp2_with fail
    go_ret2
    exact ⟨HB1.out, .inl ⟨HZ.out, by rw [← HE.out]; rfl⟩⟩
end Go.Proofs.Ytdamlnpfpfpeeaa

/- All rows together: what All gives is what the reference gives, and it owes nothing to what was handed over. -/
namespace Go.Proofs.Ytdamlnpfpfpeeaa
open Go.RowKit

structure OkRs (rs : List (List En)) : Prop where
  l1 : rs.length ≤ 10000
  l2 : ∀ r ∈ rs, r.length ≤ 100000
  l3 : ∀ r ∈ rs, ∀ x ∈ r, x.1.length ≤ 100000
theorem okRs_of {rs : List (List En)} (h : rs.length ≤ 20 ∧ ∀ r ∈ rs, okRow r) : OkRs rs := ⟨by omega, fun r hr => by have := (h.2 r hr).1; omega, fun r hr x hx => by have := (h.2 r hr).2 x hx; omega⟩
theorem flat_len60 : ∀ (rs : List (List En)), (∀ r ∈ rs, okRow r) → rs.flatten.length ≤ rs.length * 60
  | [], _ => by simp
  | r :: rs, h => by
    have h1 := flat_len60 rs (fun r' hr' => h r' (List.mem_cons_of_mem _ hr'))
    have h2 := (h r (List.mem_cons_self ..)).1
    simp only [List.flatten_cons, List.length_append, List.length_cons]
    omega
/-- A block that another one's cell is set in stays. -/
theorem blk_set {W : World} {g : Nat} {u : Value} {k : Nat} (h : k ≠ g) : (W.setCell ⟨g, 0, none⟩ u).heap[k]? = W.heap[k]? := by
  simp [World.setCell, Array.getElem?_modify, Ne.symm h]
theorem oe_set {W : World} {base g : Nat} {v : Value} {xs : List Ev} {cs : Array Value} (u : Value) (h : OwnE W base v xs) (hb : W.heap[g]? = some (.cells cs 5 (0, 0))) : OwnE (W.setCell ⟨g, 0, none⟩ u) base v xs := by
  obtain ⟨h1, h2⟩ := h
  refine ⟨h1, ?_⟩
  rcases h2 with h2 | ⟨g', cap, cur, hv, hg, hw, r⟩
  · exact .inl h2
  · refine .inr ⟨g', cap, cur, hv, hg, ?_, r⟩
    rw [blk_set (by rintro rfl; rw [hb] at hw; simp at hw)]
    exact hw
theorem own_turn {W : World} {base g : Nat} {v : Value} {l : List UInt8} (y : UInt8) (h : Own W base v l) : ∃ l' : List UInt8, l'.length = l.length ∧ Own (W.setCell ⟨g, 0, none⟩ (bc y)) base v l' := by
  by_cases e : ∃ n cap, v = .slice (some ⟨g, 0, none⟩) n cap
  · obtain ⟨n, cap, rfl⟩ := e
    exact ⟨l.set 0 y, by simp, (h.stored 0 y).1⟩
  · refine ⟨l, rfl, ?_⟩
    obtain ⟨h1, h2⟩ := h
    refine ⟨h1, ?_⟩
    rcases h2 with h2 | ⟨g', cap, cur, hv, hg, hw, r⟩
    · exact .inl h2
    · refine .inr ⟨g', cap, cur, hv, hg, ?_, r⟩
      rw [blk_set (by rintro rfl; exact e ⟨_, _, hv⟩)]
      exact hw
theorem own_cells {W : World} {base g n cap : Nat} {l : List UInt8} (h : Own W base (.slice (some ⟨g, 0, none⟩) n cap) l) : ∃ cs, W.heap[g]? = some (.cells cs 5 (0, 0)) := by
  rcases h.2 with ⟨h2, _⟩ | ⟨g', cap, cur, hv, hg, hw, r⟩
  · simp at h2
  · simp at hv
    obtain ⟨rfl, _⟩ := hv
    exact ⟨cur, hw⟩
/-- Keys of one's own, whatever they hold. -/
def Kys (W : World) (base : Nat) (xs : List Ev) : Prop := ∀ x ∈ xs, ∃ l' : List UInt8, l'.length = x.k.length ∧ Own W base x.kv l'
theorem Kys.turn {W : World} {base g : Nat} {xs : List Ev} (y : UInt8) (h : Kys W base xs) : Kys (W.setCell ⟨g, 0, none⟩ (bc y)) base xs := by
  intro x hx
  obtain ⟨l, h1, h2⟩ := h x hx
  obtain ⟨l', h3, h4⟩ := own_turn (g := g) y h2
  exact ⟨l', by omega, h4⟩
theorem OwnE.at {w : World} {base : Nat} {v : Value} {xs : List Ev} (h : OwnE w base v xs) (h0 : 0 < xs.length) : ∃ g cap, v = .slice (some ⟨g, 0, none⟩) xs.length cap ∧ ∀ j (hj : j < xs.length) (i : Nat) (hi : i < 7), w.cell? ⟨g, j * 7 + i, none⟩ = some ((c7 xs[j])[i]'hi) := by
  rcases h.2 with ⟨h1, h2⟩ | ⟨g, cap, cur, hv, hg, hw, hc, hm, _⟩
  · omega
  · have hr := h
    rw [hv] at hr
    refine ⟨g, cap, hv, fun j hj i hi => ?_⟩
    rw [show j * 7 + i = 7 * j + i by omega, World.ownsRow.cellAt hr _ (by omega), flat7 xs j i hj hi, List.getElem?_eq_getElem hi]
/-- What one turn of the first byte does. -/
theorem turn_at {W : World} {base : Nat} {n cap g : Nat} {l : List UInt8} (h : Own W base (.slice (some ⟨g, 0, none⟩) n cap) l) (h0 : 0 < l.length) : ∃ x y : UInt8, W.cell? ⟨g, 0, none⟩ = some (.int .u8 (x.toNat : Int)) ∧ W.frozen? ⟨g, 0, none⟩ = false ∧ bits .xor .u8 (x.toNat : Int) 255 = (y.toNat : Int) := by
  obtain ⟨h1, h2⟩ := h.at 0 h0
  have hx := (l[0]).toNat_lt
  have hxl : (l[0]).toNat ^^^ 255 < 2 ^ 8 := Nat.xor_lt_two_pow hx (by decide)
  have ey : (UInt8.ofNat ((l[0]).toNat ^^^ 255)).toNat = (l[0]).toNat ^^^ 255 := by rw [UInt8.toNat_ofNat', Nat.mod_eq_of_lt hxl]
  exact ⟨l[0], UInt8.ofNat ((l[0]).toNat ^^^ 255), h1, h2, by rw [ey]; exact u8_xor_nat _ 255 hx (by decide)⟩
set_option maxRecDepth 100000 in
set_option maxHeartbeats 4000000 in
theorem all_walk0 (v : Value) (rs : List (List En)) (w : World) (hR : RReads w v rs) (hS : ∀ r ∈ rs, ∀ x ∈ r, -170141183460469231731687303715884105728 ≤ x.2.s ∧ x.2.s < 170141183460469231731687303715884105728) : Calls Try.prog 3 #[v] w fun e w' => e = .returned (.bool true) ∧ Below w.heap.size w w' := by
  have HR : Hid (RReads w v rs) := hR
  have HCN : Hid _ := rReads_cn hR
  have HS : Hid _ := hS
  obtain ⟨av, cv, rfl, _⟩ := hR
  clear hS
  go_enter Try.func3, Try.ntmps3
  go_wp2_with fail
  refine (great_any _ rs _ HR.out).mono ?_
  rintro e w1 ⟨gg, rfl, hgg, hw1⟩
  subst w1
  cases gg with
  | true =>
    go_wp2_with fail
    refine (alive_any _).mono ?_
    rintro e w2 ⟨rfl, hb2⟩
    have HB2 : Hid _ := hb2
    clear hb2
    go_wp2_with fail
    go_ret
    exact ⟨rfl, HB2.out⟩
  | false =>
    have HG : Hid (rs.length ≤ 20 ∧ ∀ r ∈ rs, okRow r) := hgg rfl
    have HOK : Hid (OkRs rs) := okRs_of HG.out
    have HFL : Hid (rs.flatten.length ≤ 100000000) := by
      have h1 := flat_len60 rs HG.out.2
      have h2 := HG.out.1
      unfold Hid
      omega
    have HGD : Hid (rowsF rs = 0 → GdR rs) := fun hz => gd_rows hz HCN.out HS.out
    clear hgg HS
    go_wp2_with fail
    refine (all_some _ rs _ HR.out HOK.out.l1 HOK.out.l2 HOK.out.l3).mono ?_
    rintro e w2 ⟨hb2, ⟨hne, rfl⟩ | ⟨hz, l, xs, rfl, ho, hm, hc⟩⟩
    · have HB2 : Hid (Below w.heap.size w w2) := hb2
      have HNE : Hid (rowsF rs ≠ 0) := hne
      clear hb2 hne
      go_wp2_with fail
      refine (refAll_any w _ rs _ HB2.out HR.out HGD.out HFL.out).mono ?_
      rintro e w3 ⟨hb3, ⟨_, rfl⟩ | ⟨hz, _⟩⟩
      · have HB3 : Hid (Below w.heap.size w w3) := HB2.out.trans (hb3.mono HB2.out.size)
        clear hb3
        obtain ⟨E, HE⟩ := hid_ex (rowsF rs)
        rw [← HE.out]
        go_wp2_with fail
        go_loopw [7] (fun i wr => i = .int .i64 0 ∧ Hid (Below w.heap.size w wr)) (fun i _ => 1300 - (intOf i).toNat)
        case atStart => exact ⟨rfl, HB3.out⟩
        case round =>
          obtain ⟨rfl, HBr⟩ := hrel
          go_wp2_with fail
          refine (all_some _ rs _ (HR.out.below HBr.out) HOK.out.l1 HOK.out.l2 HOK.out.l3).mono ?_
          rintro e w4 ⟨hb4, ⟨_, rfl⟩ | ⟨hz, _⟩⟩
          · have HB4 : Hid (Below w.heap.size w w4) := HBr.out.trans (hb4.mono HBr.out.size)
            clear hb4
            rw [← HE.out]
            go_wp2_with fail
            refine (alive_any _).mono ?_
            rintro e w5 ⟨rfl, hb5⟩
            have HB5 : Hid (Below w.heap.size w w5) := HB4.out.trans (hb5.mono HB4.out.size)
            clear hb5
            go_wp2_with fail
            refine (same_true _ _ [] _ (EReads.rd (v := .slice none 0 0) ⟨none, 0, rfl, by simp, by simp, .inl rfl⟩) (EReads.rd (v := .slice none 0 0) ⟨none, 0, rfl, by simp, by simp, .inl rfl⟩)).mono ?_
            rintro e w6 ⟨rfl, hb6⟩
            have HB6 : Hid (Below w.heap.size w w6) := HB5.out.trans (hb6.mono HB5.out.size)
            clear hb6
            go_wp2_with fail
            go_ret
            exact ⟨rfl, HB6.out⟩
          · exact absurd hz HNE.out
      · exact absurd hz HNE.out
    · have HB2 : Hid (Below w.heap.size w w2) := hb2
      have HZ : Hid (rowsF rs = 0) := hz
      have HO2 : Hid (OwnE w2 w.heap.size l xs) := ho.1
      have HK2 : Hid (Kys w2 w.heap.size xs) := fun x hx => ⟨x.k, rfl, ho.2 x hx⟩
      have HM : Hid (xs.map evE = allF rs) := hm
      have HXL : Hid (xs.length = (allF rs).length) := by unfold Hid; rw [← hm, List.length_map]
      obtain ⟨la, lc, rfl, hla, hlb⟩ := HO2.out.rc.form
      unfold maxLen at hlb
      clear hb2 hz ho hm hc
      go_wp2_with fail
      refine (refAll_any w _ rs _ HB2.out HR.out HGD.out HFL.out).mono ?_
      rintro e w3 ⟨hb3, ⟨hz, _⟩ | ⟨_, m, ys, rfl, hm3, he3, hp3⟩⟩
      · exact absurd HZ.out hz
      · have HB3 : Hid (Below w.heap.size w w3) := HB2.out.trans (hb3.mono HB2.out.size)
        have HO3 : Hid (OwnE w3 w.heap.size (.slice la xs.length lc) xs) := HO2.out.below hb3
        have HK3 : Hid (Kys w3 w.heap.size xs) := fun x hx => by
          obtain ⟨l', g1, g2⟩ := HK2.out x hx
          exact ⟨l', g1, g2.below hb3⟩
        have HM3 : Hid (OwnE w3 w2.heap.size m ys) := hm3
        have HE3 : Hid (EvR w ys) := he3
        have HP3 : Hid (ys.map evE = allF rs) := by
          unfold Hid
          rw [hp3, allF_can HZ.out (HGD.out HZ.out)]
          exact putA_can (HGD.out HZ.out).flat
        have hyl : ys.length = xs.length := by rw [HXL.out, ← HP3.out, List.length_map]
        obtain ⟨ma, mc, rfl, _, _⟩ := HM3.out.rc.form
        rw [hyl] at HM3
        clear hb3 hm3 he3 hp3 HO2 HK2 HXL
        rw [hyl]
        go_wp2_with fail
        go_loopw [7] (fun i wr => ∃ k : Nat, k ≤ xs.length ∧ i = .int .i64 (k : Int) ∧ Hid (OwnE wr w.heap.size (.slice la xs.length lc) xs) ∧ Hid (Kys wr w.heap.size xs) ∧ Hid (OwnE wr w2.heap.size (.slice ma xs.length mc) ys) ∧ Hid (Below w.heap.size w wr)) (fun i _ => xs.length - (intOf i).toNat)
        case atStart => exact ⟨0, by omega, rfl, HO3.out, HK3.out, HM3.out, HB3.out⟩
        case round =>
          clear HO3 HK3 HM3 HB3
          obtain ⟨k, hk, rfl, HO, HK, HMr, HBr⟩ := hrel
          by_cases hlt : k < xs.length
          · obtain ⟨g, cap, hv, hcell⟩ := HO.out.at (by omega)
            simp only [Value.slice.injEq] at hv
            obtain ⟨rfl, _, rfl⟩ := hv
            have q0 := hcell k hlt 0 (by decide)
            simp only [c7, List.getElem_cons_zero, Nat.add_zero] at q0
            obtain ⟨l', hl', hown⟩ := HK.out _ (List.getElem_mem hlt)
            obtain ⟨x, Hx⟩ := hid_ex xs[k]
            rw [← Hx.out] at q0 hl' hown
            obtain ⟨xkv, xk, xa⟩ := x
            simp only at q0 hl' hown
            clear hcell Hx
            by_cases h0 : 0 < l'.length
            · obtain ⟨kg, kc, rfl, hk1, hk2, _, _⟩ := hown.some h0
              obtain ⟨x, y, i1, f1, y1⟩ := turn_at hown h0
              obtain ⟨cs, hcs⟩ := own_cells hown
              have HOS : Hid (OwnE (wr.setCell ⟨kg, 0, none⟩ (.int .u8 (y.toNat : Int))) w.heap.size (.slice (some ⟨g, 0, none⟩) xs.length lc) xs) := oe_set _ HO.out hcs
              have HMS : Hid (OwnE (wr.setCell ⟨kg, 0, none⟩ (.int .u8 (y.toNat : Int))) w2.heap.size (.slice ma xs.length mc) ys) := oe_set _ HMr.out hcs
              have HKS : Hid (Kys (wr.setCell ⟨kg, 0, none⟩ (.int .u8 (y.toNat : Int))) w.heap.size xs) := HK.out.turn y
              have HBS : Hid (Below w.heap.size w (wr.setCell ⟨kg, 0, none⟩ (.int .u8 (y.toNat : Int)))) := HBr.out.trans ((Below.refl _ _).setCell hk1 _)
              have hn0 : (l'.length : Int) > 0 := by omega
              obtain ⟨n', Hn'⟩ := hid_ex l'.length
              rw [← Hn'.out] at q0 hn0 h0
              clear hown hl' hcs hk1 hk2
              go_wp2_with fail
              go_region
              go_wp2_with fail
              go_roundw
              case rel => exact ⟨k + 1, by omega, by go_num, HOS.out, HKS.out, HMS.out, ⟨HBS.out.os, HBS.out.tape, HBS.out.output, HBS.out.size, HBS.out.block⟩⟩
              case measure => simp [intOf]; omega
            · obtain ⟨ka, kc, rfl, _⟩ := hown.form
              have hz' : l'.length = 0 := by omega
              rw [hz'] at q0
              clear hown hl'
              go_wp2_with fail
              go_roundw
              case rel => exact ⟨k + 1, by omega, by go_num, HO.out, HK.out, HMr.out, HBr.out⟩
              case measure => simp [intOf]; omega
          · have HDM : Hid (ERd wr (.slice ma xs.length mc) (allF rs)) := by
              have h9 := (HMr.out.rc.reads (HE3.out.below HBr.out)).rd
              rw [HP3.out] at h9
              exact h9
            clear HO HK HMr
            go_wp2_with fail
            refine (all_some _ rs _ (HR.out.below HBr.out) HOK.out.l1 HOK.out.l2 HOK.out.l3).mono ?_
            rintro e w4 ⟨hb4, ⟨hz, _⟩ | ⟨_, o, zs, rfl, ho4, hm4, hc4⟩⟩
            · exact absurd HZ.out hz
            · have HB4 : Hid (Below w.heap.size w w4) := HBr.out.trans (hb4.mono HBr.out.size)
              have HD4 : Hid (ERd w4 o (allF rs)) := by have h9 := ho4.rd; rw [hm4] at h9; exact h9
              have HM4 : Hid (ERd w4 (.slice ma xs.length mc) (allF rs)) := HDM.out.below hb4
              obtain ⟨A, HA⟩ := hid_ex (allF rs)
              rw [← HA.out] at HD4 HM4
              obtain ⟨oa, oc, rfl, _⟩ := HD4.out
              clear hb4 ho4 hm4 hc4 HDM
              obtain ⟨an, Han⟩ := hid_ex A.length
              rw [← Han.out] at HD4 ⊢
              go_wp2_with fail
              refine (alive_any _).mono ?_
              rintro e w5 ⟨rfl, hb5⟩
              have HB5 : Hid (Below w.heap.size w w5) := HB4.out.trans (hb5.mono HB4.out.size)
              have HD5 : Hid (ERd w5 (.slice oa an oc) A) := HD4.out.below hb5
              have HM5 : Hid (ERd w5 (.slice ma xs.length mc) A) := HM4.out.below hb5
              clear hb5 HD4 HM4
              go_wp2_with fail
              refine (same_true _ _ A _ HD5.out HM5.out).mono ?_
              rintro e w6 ⟨rfl, hb6⟩
              have HB6 : Hid (Below w.heap.size w w6) := HB5.out.trans (hb6.mono HB5.out.size)
              clear hb6
              go_wp2_with fail
              go_ret
              exact ⟨rfl, HB6.out⟩
theorem all_walk (v : Value) (rs : List (List En)) (w : World) (hR : RReads w v rs) : Calls Try.prog 3 #[v] w fun e w' => e = .returned (.bool true) ∧ Below w.heap.size w w' := by
  obtain ⟨rs', h1, h2⟩ := rReads_nz hR
  exact all_walk0 v rs' w h1 h2
end Go.Proofs.Ytdamlnpfpfpeeaa
