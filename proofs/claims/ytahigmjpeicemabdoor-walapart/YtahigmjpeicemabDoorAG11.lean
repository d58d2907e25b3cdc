/- SF9, joined. -/
import Derived.Test.YtahigmjpeicemabDoorAG10
/- A file system: Append, Read. -/
namespace Go.Proofs.YtahigmjpeicemabDoor
open Go.RowKit Go.Maps

theorem SfWf.plan {s : SfS} (q : SfWf s) : SfWf (sfPlan s).2 := by
  unfold sfPlan
  split
  · exact q
  · split
    · exact ⟨q.r1, q.r2, by show _ ≤ s.left - 1; omega, by show s.left - 1 < _; have := q.l2; omega, q.di, q.oi, q.pi, q.ap, q.ln, q.sy⟩
    · exact ⟨q.r1, q.r2, q.l1, q.l2, q.di, q.oi, q.pi, q.ap, q.ln, q.sy⟩
theorem Reads.keepB {w w' : World} {v : Value} {l : List UInt8} (h : Reads w v l) (hk : ∀ k, v.ownBlock = some k → k < w.heap.size → w'.heap[k]? = w.heap[k]?) (hs : w.heap.size ≤ w'.heap.size) : Reads w' v l := by
  rcases h with h | ⟨b, off, cap, rfl, h2, h3, h4, h5, h6⟩
  · exact .inl h
  · exact .inr ⟨b, off, cap, rfl, h2, h3, h4, by omega, fun j hj => (World.cell?_of_block (hk b rfl h5)).trans (h6 j hj)⟩
theorem wpList_app_runG {w w' : World} {ops : Array Oper} {rest : List Oper} {o : Oper} {a : Act} {Q : Exit → Act → World → Prop} (hgd : o.guard = none) (s x : Operand) (t ty : TypeId) (ho : o.op = .call { callee := .builtin .append, args := #[s, x], argTypes := #[t, t] }) (hty : o.type = ty) (v vx v' : Value) (hs : a.eval s = v) (hx : a.eval x = vx)
    (hrun : (Builtin.append_ #[t, t] ty #[v, vx]).run Tryd.prog w = .ok v' w') (h : wpList Tryd.prog ops Q rest (a.put o.dst v') w') : wpList Tryd.prog ops Q (o :: rest) a w :=
  wpList_plain hgd fun _ hK => wp_app_runG s x t ty ho hty v vx v' hs hx hrun (hK _ _ h)
end Go.Proofs.YtahigmjpeicemabDoor
