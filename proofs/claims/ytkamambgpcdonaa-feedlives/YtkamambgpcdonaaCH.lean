/- A select of one case with a default, in the walk of one goroutine: what a region does that begins with it. -/
import Derived.Test.YtkamambgpcdonaaRows
import Derived.WalkKit
import Derived.WalkSpells
import Derived.WalkLawsBesides
import Derived.WalkMore
import Derived.Below
import Derived.Conc.LoneSelect
import Derived.Conc.LoneSelectN
namespace Go.Proofs.Ytkamambgpcdonaa
open Go.RowKit Go.Conc

section
variable {P : Program} {b : Frame} {a : Act} {k : List Item} {cs : List Frame} {w : World}
/-- A communication's step, whatever kind of call it stands in. -/
theorem stepG_comm' {ops : Array Oper} {i : Nat} {rest : List Nat} {o : Oper} {cases : Array CommCase} {blocking : Bool} {shape : CommShape} {w' : World} (ho : ops[i]? = some o) (hw : Region.wanted o (yielded ops a.tmps) = true)
    (hr : (execOp a.eval o).run P w = .ok (.comm cases blocking shape) w') :
    ∃ es, stepG P true (G (b.at a (.inRegion ops (i :: rest) :: k)) cs) w = .comm (G (b.at a (.inRegion ops (i :: rest) :: k)) cs) cases blocking shape w' es := by
  by_cases hk : b.kind = .early
  · rw [stepG_oper ho hw]
    simp [stepG.apply, hr, G, Frame.at, hk, GStep.after]
  · exact ⟨_, stepG_comm ho hw hk hr⟩
end

/-- A region whose first operation is a communication: the machine's own step, then the rest. -/
theorem wp_region_comm {P : Program} {id : Nat} {o : Oper} {l : List Oper} {a : Act} {w w' : World} {Q : Exit → Act → World → Prop} (v : Value)
    (hstep : ∀ (b : Frame) (k : List Item) (cs : List Frame) (rest : List Nat), step P (solo (G (b.at a (.inRegion (o :: l).toArray (0 :: rest) :: k)) cs) w) = .next (solo (G ((b.at a (.inRegion (o :: l).toArray (0 :: rest) :: k)).finish v) cs) w'))
    (h : wpList P (o :: l).toArray Q l (a.put o.dst v) w') : (Code.region id (o :: l).toArray false).wp P Q a w := by
  intro b k cs
  have he := wpOps_eq_wpList (P := P) (ops := (o :: l).toArray) (Q := Q) l 1 (by intro j; simp [Nat.add_comm])
  rw [← he] at h
  obtain ⟨e, a', w₂, hq, harr⟩ := wp_ops _ _ _ h b k cs
  refine ⟨e, a', w₂, hq, .of_steps (.head step_region (.one ?_)) harr⟩
  have hs := hstep b k cs (List.range' 1 l.length)
  rw [Frame.finish_at] at hs
  have hr : List.range (o :: l).toArray.size = 0 :: List.range' 1 l.length := by
    simp [List.range_eq_range', List.range'_succ]
  rw [hr]
  rw [lone_eq_solo, lone_eq_solo]
  simpa using hs

section
variable {P : Program} {id : Nat} {o : Oper} {l : List Oper} {a : Act} {w : World} {Q : Exit → Act → World → Prop} {c cap s r : Nat} {buf : Array Value} {z v : Value} {tm closed : Bool}
/-- A send with room. -/
theorem wp_select_send_room (hg : o.guard = none) (hr : (execOp a.eval o).run P w = .ok (.comm #[scase c v z] false .select) w) (hc : w.heap[c]? = some (.chan cap buf false s r tm)) (hroom : buf.size < cap)
    (h : wpList P (o :: l).toArray Q l (a.put o.dst (.tuple #[goInt 0, .bool false])) (w.setChan c cap (buf.push v) false (s + 1) r tm)) : (Code.region id (o :: l).toArray false).wp P Q a w :=
  wp_region_comm _ (fun b k cs rest => by
    obtain ⟨es, hs⟩ := stepG_comm' (P := P) (b := b) (k := k) (cs := cs) (rest := rest) (ops := (o :: l).toArray) (i := 0) rfl (by simp [Region.wanted, hg]) hr
    exact step_lone_select_send_room hs hc hroom) h
/-- A send without room: the default. -/
theorem wp_select_send_full (hg : o.guard = none) (hr : (execOp a.eval o).run P w = .ok (.comm #[scase c v z] false .select) w) (hc : w.heap[c]? = some (.chan cap buf false s r tm)) (hfull : cap ≤ buf.size)
    (h : wpList P (o :: l).toArray Q l (a.put o.dst (.tuple #[goInt (-1), .bool false])) w) : (Code.region id (o :: l).toArray false).wp P Q a w :=
  wp_region_comm _ (fun b k cs rest => by
    obtain ⟨es, hs⟩ := stepG_comm' (P := P) (b := b) (k := k) (cs := cs) (rest := rest) (ops := (o :: l).toArray) (i := 0) rfl (by simp [Region.wanted, hg]) hr
    exact step_lone_select_send_full hs hc hfull) h
/-- A receive of what the buffer holds. -/
theorem wp_select_recv_buf (hg : o.guard = none) (hr : (execOp a.eval o).run P w = .ok (.comm #[rcase c z] false .select) w) (hc : w.heap[c]? = some (.chan cap buf closed s r tm)) (hsome : 0 < buf.size)
    (h : wpList P (o :: l).toArray Q l (a.put o.dst (.tuple #[goInt 0, .bool true, buf.getD 0 undef])) (w.setChan c cap (buf.extract 1 buf.size) closed s (r + 1) tm)) : (Code.region id (o :: l).toArray false).wp P Q a w :=
  wp_region_comm _ (fun b k cs rest => by
    obtain ⟨es, hs⟩ := stepG_comm' (P := P) (b := b) (k := k) (cs := cs) (rest := rest) (ops := (o :: l).toArray) (i := 0) rfl (by simp [Region.wanted, hg]) hr
    exact step_lone_select_recv_buf hs hc hsome) h
/-- A receive of an empty open channel: the default. -/
theorem wp_select_recv_none (hg : o.guard = none) (hr : (execOp a.eval o).run P w = .ok (.comm #[rcase c z] false .select) w) (hc : w.heap[c]? = some (.chan cap #[] false s r tm))
    (h : wpList P (o :: l).toArray Q l (a.put o.dst (.tuple #[goInt (-1), .bool false, z])) w) : (Code.region id (o :: l).toArray false).wp P Q a w :=
  wp_region_comm _ (fun b k cs rest => by
    obtain ⟨es, hs⟩ := stepG_comm' (P := P) (b := b) (k := k) (cs := cs) (rest := rest) (ops := (o :: l).toArray) (i := 0) rfl (by simp [Region.wanted, hg]) hr
    exact step_lone_select_default hs hc) h
end
/-- A channel against nil. -/
theorem run_equalIn_chan_nil {P : Program} (w : World) (d : Nat) (t e : TypeId) (dir : ChanDir) (c : Option Nat) (h : P.underlying t = some (.chan dir e)) : (Op.equalIn (d + 1) t (.chan c) (.chan none)).run P w = .ok c.isNone w := by
  cases c <;> simp [Op.equalIn, run_underlying h]
theorem run_neq_chan_nil {P : Program} (w : World) (t e : TypeId) (dir : ChanDir) (c : Option Nat) (h : P.underlying t = some (.chan dir e)) : (binOp .neq t (.chan c) (.chan none)).run P w = .ok (.bool (!c.isNone)) w := by
  have h2 : (Op.equal t (.chan c) (.chan none)).run P w = .ok c.isNone w := run_equalIn_chan_nil w 9999 t e dir c h
  simp only [binOp]
  simp [h2]
theorem cell_setChan (w : World) (c cap : Nat) (buf : Array Value) (cl : Bool) (s r : Nat) (tm : Bool) {g o : Nat} (h : c ≠ g) : (w.setChan c cap buf cl s r tm).cell? ⟨g, o, none⟩ = w.cell? ⟨g, o, none⟩ := by
  simp [World.cell?, World.setChan, Array.getElem?_setIfInBounds_ne h]
theorem frozen_setChan (w : World) (c cap : Nat) (buf : Array Value) (cl : Bool) (s r : Nat) (tm : Bool) {g o : Nat} (h : c ≠ g) : (w.setChan c cap buf cl s r tm).frozen? ⟨g, o, none⟩ = w.frozen? ⟨g, o, none⟩ := by
  simp [World.frozen?, World.setChan, Array.getElem?_setIfInBounds_ne h]
theorem heap_setChan_ne (w : World) (c c' cap : Nat) (buf : Array Value) (closed : Bool) (s r : Nat) (tm : Bool) (h : c ≠ c') : (w.setChan c cap buf closed s r tm).heap[c']? = w.heap[c']? := by
  simp [World.setChan, Array.getElem?_setIfInBounds_ne h]
end Go.Proofs.Ytkamambgpcdonaa
