/- A number is stored: the world behind it, by name; texts are compared. -/
import Derived.Test.YtdamlnpfpfpeeaaMG22
import Derived.Test.YtdamlnpfpfpeeaaMG16
namespace Go.Proofs.Ytdamlnpfpfpeeaa
open Go.RowKit

theorem run_storeVar_int (w : World) (b o : Nat) (ty : TypeId) (z : Int) (ht : w.there b o 1) (hi : (Try.prog.info? ty).map (·.size) = some 1) :
    (storeVar ty ⟨b, o, none⟩ (.int .i64 z)).run Try.prog w = .ok () (w.setCells b o [.int .i64 z]) := by
  have := run_storeCells_cells (P := Try.prog) b o [.int .i64 z] 0 w (fun j hj => by simpa using (ht j (by simpa using hj)).1) (fun j hj => by simpa using (ht j (by simpa using hj)).2) (fun v hv => by simp at hv; subst hv; rfl)
  cases hq : Try.prog.info? ty with
  | none => simp [hq] at hi
  | some i =>
    have hs : i.size = 1 := by simpa [hq] using hi
    simp only [Nat.add_zero] at this
    simp [storeVar, sizeOf, typeInfo, hq, Value.cells, hs, this]
theorem wpList_storeI {ops : Array Oper} {rest : List Oper} {op : Oper} {a : Act} {w : World} {Q : Exit → Act → World → Prop} (hgd : op.guard = none) (ty : TypeId) (x y : Operand) (ho : op.op = .store ty x y) (g off : Nat) (z : Int) (hx : a.eval x = .pointer (some ⟨g, off, none⟩)) (hy : a.eval y = .int .i64 z)
    (cur : Array Value) (T : TypeId) (hg : w.heap[g]? = some (.cells cur T)) (hl : off + 1 ≤ cur.size) (hi : (Try.prog.info? ty).map (·.size) = some 1)
    (h : ∀ W, StW w W g off cur T [.int .i64 z] → wpList Try.prog ops Q rest (a.put op.dst undef) W) : wpList Try.prog ops Q (op :: rest) a w :=
  wpList_plain hgd fun _ hK => by
    unfold Oper.wp execOp
    simp only [ho, hx, hy, Instr.storeAt, Instr.sureAddr, Sem.run_bind, Sem.run_pure, Result.andThen_ok, run_storeVar_int w g off ty z (there_of hg hl) hi]
    exact hK _ _ (h _ (stW_cells g T [.int .i64 z] off w cur hg hl))
theorem AtM.stored {W W5 : World} {g n i : Nat} {c c' : Nat → Nat} {cur : Array Value} (h2 : ∀ j, j < n → cur[j]? = some (.int .i64 (c j : Int))) (hW : StW W W5 g i cur 3 [.int .i64 ((c i : Int) + 1)]) (hc : ∀ j, j < n → c' j = if i = j then c j + 1 else c j) : AtM W5 g n c' := by
  obtain ⟨cur', k1, k2, k3, k4⟩ := hW.c
  refine ⟨cur', k1, fun j hj => ?_⟩
  rw [hc j hj]
  by_cases e : i = j
  · subst e
    rw [if_pos rfl]
    have := k4 0 (by simp)
    simpa using this
  · rw [if_neg e, k3 j (by simp; omega)]
    exact h2 j hj
theorem less_iff : ∀ a b : Ks, Op.bytesLess a b = true ↔ Lib.compareBytes a b = -1
  | [], [] => by simp [Op.bytesLess, Lib.compareBytes]
  | [], _ :: _ => by simp [Op.bytesLess, Lib.compareBytes]
  | _ :: _, [] => by simp [Op.bytesLess, Lib.compareBytes]
  | x :: a, y :: b => by
    have ih := less_iff a b
    simp only [Op.bytesLess, Lib.compareBytes]
    by_cases h1 : x < y
    · simp [h1]
    · rw [if_neg h1]
      by_cases h2 : y < x
      · have : x ≠ y := fun e => by subst e; exact h1 h2
        simp [h1, h2, this]
      · have : x = y := u8_tri h1 h2
        subst this
        simp [ih]
theorem less_no {a b : Ks} (h : ¬ ltK a b) : Op.bytesLess a b = false := by
  rw [Bool.eq_false_iff]
  exact fun e => h ((less_iff a b).1 e)
theorem seq60 {rs : List (List En)} (h : rs.length ≤ 20 ∧ ∀ r ∈ rs, okRow r) : (seqF rs).length ≤ 1200 := by
  have h2 : (seqF rs).length ≤ rs.length * 60 := by
    unfold seqF
    rw [(srtG_perm _).length_eq]
    have : ∀ (rs : List (List En)) (i : Nat), (∀ r ∈ rs, okRow r) → (tagsF i rs).length ≤ rs.length * 60 := by
      intro rs
      induction rs with
      | nil => intro i _; simp [tagsF]
      | cons r rs ih =>
        intro i hr
        have h3 := ih (i + 1) (fun r' hr' => hr r' (List.mem_cons_of_mem _ hr'))
        have h4 := (hr r (List.mem_cons_self ..)).1
        unfold tagsF
        rw [List.length_append]
        unfold tagP
        simp
        omega
    exact this rs 0 h.2
  have := h.1
  omega
end Go.Proofs.Ytdamlnpfpfpeeaa
