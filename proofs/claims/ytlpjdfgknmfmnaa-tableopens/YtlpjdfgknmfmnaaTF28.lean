/- RR GAp TT3, joined. -/
import Derived.Test.YtlpjdfgknmfmnaaTF2
import Derived.Test.YtlpjdfgknmfmnaaTF19
import Derived.Test.YtlpjdfgknmfmnaaTF26
import Derived.Test.YtlpjdfgknmfmnaaTF27
import Derived.RangeFuncCalls
import Derived.TacticsIn
import Derived.Laws.AppendOwn
import Derived.Laws.AppendOwnNone
/- A drawn region in a round of a range over a function, walked as everywhere. -/
namespace Go.Proofs.Ytlpjdfgknmfmnaa
open Go.RowKit

variable {P : Program} {ops : Array Oper} {Q : Exit → Act → World → Prop}
theorem noPanic_shut {Q : Exit → Act → World → Prop} (h : ¬ LetsOut Q) : ¬ LetsOut (NoPanic Q) := fun ⟨a, w, q⟩ => h ⟨a, w, NoPanic.imp _ _ _ q⟩
/-- No operation is a defer statement, and none is of the library. -/
def plainOps (ops : Array Oper) : Bool := ops.toList.all fun o => match o.op with | .defer _ => false | _ => true
theorem plainOps_spec (h : plainOps ops = true) (i : Nat) (o : Oper) (hi : ops[i]? = some o) : ∀ c, o.op ≠ .defer c := by
  intro c e
  have hm : o ∈ ops.toList := Array.mem_toList_iff.2 (Array.mem_of_getElem? hi)
  have := List.all_eq_true.1 h o hm
  rw [e] at this
  simp at this
theorem opsIn_round {l n : Nat} (hd : ∀ (i : Nat) (o : Oper), ops[i]? = some o → ∀ c, o.op ≠ .defer c) (hQ : ¬ LetsOut Q) : ∀ (L : List Nat) (a : Act) (w : World), wpOps P ops Q L a w → wpOpsIn (Fence.wide.inRound l) n P ops Q L a w
  | [], _, _, h => h
  | i :: rest, a, w, h => by
    have ih := opsIn_round (l := l) (n := n) hd hQ rest
    simp only [wpOps] at h
    simp only [wpOpsIn]
    cases ho : ops[i]? with
    | none => simp only [ho] at h ⊢; exact ih a w h
    | some o =>
      simp only [ho] at h ⊢
      by_cases hw : Region.wanted o (yielded ops a.tmps) = true
      · simp only [hw, if_true] at h ⊢
        have h := h.resolve_right (fun q => hQ q.2)
        refine ⟨fun _ _ => trivial, ?_⟩
        rw [Fence.inRound_round, Oper.semAt_some _ _ _ (hd i o ho)]
        unfold Oper.wp at h
        cases hr : (execOp a.eval o).run P w with
        | ok x w' =>
          rw [hr] at h
          cases x <;> simp only [Oper.upon, Oper.uponIn] at h ⊢
          all_goals first
            | exact ih _ _ h
            | exact ⟨fun hh => (by cases hh), (callsIn_wide.2 (Calls.mono h (fun e w'' he => by cases e <;> first | exact ih _ _ he | exact he))).inRound l⟩
            | exact ⟨fun hh => (by cases hh), fun c cs _ => let ⟨v, w2, r, st⟩ := h c cs; ⟨v, w2, ih _ _ r, stepsIn_wide.2 st⟩⟩
        | halt x w' =>
          rw [hr] at h
          cases x <;> simp only [Oper.upon, Oper.uponIn] at h ⊢ <;> exact h
      · simp only [hw, if_false, Bool.false_eq_true] at h ⊢
        exact ⟨fun _ _ => trivial, ih _ _ h⟩
theorem wpIn_round_S {id l n : Nat} {a : Act} {w : World} (k : Nat) (St Pr : World → Prop) (hm : P.follows .mixedOrders = true) (hd : plainOps ops = true) (hQ : ¬ LetsOut Q) (hS : St w.drew) (hP : Pr w.drew)
    (h : StK k St Pr (Array.replicate ops.size false) w.drew → wpAnyS P .any ops (NoPanic Q) k St Pr ops.size (Array.replicate ops.size false) a w.drew) : (Code.region id ops true).wpIn (Fence.wide.inRound l) n P Q a w :=
  wpIn_mono (wpIn_region_draw fun t => by
    simp only [Region.schedule, hm, Bool.true_or, if_true]
    exact opsIn_round (plainOps_spec hd) (noPanic_shut hQ) _ _ _ (wpAny_sound ops.size t _ a _ (wpAny_of_S _ _ _ _ (h ⟨hS, fun _ => hP⟩)))) NoPanic.imp
end Go.Proofs.Ytlpjdfgknmfmnaa

/- Append to a row whose capacity may end ahead of its block, with where the new row lies; what a call touches, as a set of blocks. -/
namespace Go.Proofs.Ytlpjdfgknmfmnaa
open Go.RowKit

/-- Nothing that was there has turned but blocks of O. -/
structure Onl (O : Nat → Prop) (w w' : World) : Prop where
  os : w'.os = w.os
  tape : w'.tape = w.tape
  output : w'.output = w.output
  size : w.heap.size ≤ w'.heap.size
  block : ∀ k, k < w.heap.size → ¬ O k → w'.heap[k]? = w.heap[k]?
/-- O, and what is new. -/
def Grw (O : Nat → Prop) (w w' : World) (k : Nat) : Prop := O k ∨ (w.heap.size ≤ k ∧ k < w'.heap.size)
theorem Onl.refl (O : Nat → Prop) (w : World) : Onl O w w := ⟨rfl, rfl, rfl, Nat.le_refl _, fun _ _ _ => rfl⟩
theorem Onl.trans {O : Nat → Prop} {w w1 w2 : World} (h : Onl O w w1) (h' : Onl (Grw O w w1) w1 w2) : Onl O w w2 :=
  ⟨h'.os.trans h.os, h'.tape.trans h.tape, h'.output.trans h.output, Nat.le_trans h.size h'.size, fun k hk ho => (h'.block k (Nat.lt_of_lt_of_le hk h.size) (fun q => q.elim ho (fun r => by omega))).trans (h.block k hk ho)⟩
theorem Onl.mono {O O' : Nat → Prop} {w w' : World} (h : Onl O w w') (hO : ∀ k, O k → O' k) : Onl O' w w' := ⟨h.os, h.tape, h.output, h.size, fun k hk ho => h.block k hk (fun q => ho (hO k q))⟩
theorem Onl.then {O : Nat → Prop} {w w1 w2 : World} (h : Onl O w w1) (h' : Onl O w1 w2) : Onl O w w2 := h.trans (h'.mono fun _ q => .inl q)
theorem Onl.below {O : Nat → Prop} {w w' : World} {base : Nat} (h : Onl O w w') (hb : base ≤ w.heap.size) (hO : ∀ k, O k → base ≤ k) : Below base w w' := ⟨h.os, h.tape, h.output, h.size, fun k hk => h.block k (by omega) (fun q => by have := hO k q; omega)⟩
theorem onl_of_below {O : Nat → Prop} {w w' : World} (h : Below w.heap.size w w') : Onl O w w' := ⟨h.os, h.tape, h.output, h.size, fun k hk _ => h.block k hk⟩
theorem Grw.lt {O : Nat → Prop} {w w' : World} (h : ∀ k, O k → k < w.heap.size) (hs : w.heap.size ≤ w'.heap.size) : ∀ k, Grw O w w' k → k < w'.heap.size := fun k hk => hk.elim (fun q => Nat.lt_of_lt_of_le (h k q) hs) (fun q => q.2)
theorem Grw.trans {O : Nat → Prop} {w w1 w2 : World} (h1 : w.heap.size ≤ w1.heap.size) (h2 : w1.heap.size ≤ w2.heap.size) : ∀ k, Grw (Grw O w w1) w1 w2 k → Grw O w w2 k := fun k hk => by
  rcases hk with (q | q) | q
  · exact .inl q
  · exact .inr ⟨q.1, by omega⟩
  · exact .inr ⟨by omega, q.2⟩
theorem Onl.set {O : Nat → Prop} {w : World} {a : Addr} (h : O a.block) (v : Value) : Onl O w (w.setCell a v) := by
  have hb := (Below.refl 0 w).setCell (p := a) (Nat.zero_le _) v
  exact ⟨hb.os, hb.tape, hb.output, hb.size, fun k _ ho => Below.heap_setCell _ _ _ _ (fun e => ho (e ▸ h))⟩
theorem Onl.alloc {O : Nat → Prop} {w : World} (o : Obj) : Onl O w (w.alloc o) := onl_of_below ((Below.refl _ _).alloc (Nat.le_refl _) _)
theorem Onl.grown {O : Nat → Prop} {w w' : World} {row : Option Nat} (h : w.grownBy w' row) (hr : ∀ k, row = some k → O k) : Onl O w w' := ⟨h.os, h.tape, h.output, h.size, fun k hk ho => h.block k hk (fun e => ho (hr k e.symm))⟩
/-- A row of one's own, in a block that may go on behind its capacity. -/
def GOwn (w : World) (e : TypeId) (size : Nat) (v : Value) (n : Nat) (xs : List Value) : Prop :=
  xs.length = n * size ∧ ((v = .slice none 0 0 ∧ n = 0) ∨ ∃ g cap cur, v = .slice (some ⟨g, 0, none⟩) n cap ∧ w.heap[g]? = some (.cells cur e (0, 0)) ∧ n ≤ cap ∧ cap ≤ maxLen ∧ cap * size ≤ cur.size ∧ cur.toList.take (n * size) = xs)
theorem GOwn.nil (w : World) (e : TypeId) (size : Nat) : GOwn w e size (.slice none 0 0) 0 [] := ⟨by simp, .inl ⟨rfl, rfl⟩⟩
theorem GOwn.keep {w w' : World} {e : TypeId} {size : Nat} {v : Value} {n : Nat} {xs : List Value} (h : GOwn w e size v n xs) (hk : ∀ k, v.ownBlock = some k → w'.heap[k]? = w.heap[k]?) : GOwn w' e size v n xs := by
  refine ⟨h.1, ?_⟩
  rcases h.2 with h2 | ⟨g, cap, cur, rfl, h3, r⟩
  · exact .inl h2
  · exact .inr ⟨g, cap, cur, rfl, (hk g rfl).trans h3, r⟩
theorem GOwn.block {w : World} {e : TypeId} {size : Nat} {v : Value} {n : Nat} {xs : List Value} (h : GOwn w e size v n xs) {k : Nat} (hk : v.ownBlock = some k) : ∃ cur, w.heap[k]? = some (.cells cur e (0, 0)) := by
  rcases h.2 with ⟨rfl, _⟩ | ⟨g, cap, cur, rfl, h3, r⟩
  · simp [Value.ownBlock] at hk
  · obtain rfl : g = k := by simpa [Value.ownBlock] using hk
    exact ⟨cur, h3⟩
theorem GOwn.form {w : World} {e : TypeId} {size : Nat} {v : Value} {n : Nat} {xs : List Value} (h : GOwn w e size v n xs) : ∃ a cap, v = .slice a n cap ∧ n ≤ cap ∧ cap ≤ maxLen ∧ (∀ b, a = some b → b = ⟨b.block, 0, none⟩) ∧ (a = none → n = 0 ∧ cap = 0) := by
  rcases h.2 with ⟨rfl, rfl⟩ | ⟨g, cap, cur, rfl, h3, h4, h5, _⟩
  · exact ⟨none, 0, rfl, Nat.le_refl _, Nat.zero_le _, (fun b hb => by cases hb), (fun _ => ⟨rfl, rfl⟩)⟩
  · exact ⟨_, cap, rfl, h4, h5, fun b hb => by cases hb; rfl, fun hb => by cases hb⟩
theorem GOwn.cells {w : World} {e : TypeId} {size : Nat} {v : Value} {n : Nat} {xs : List Value} (h : GOwn w e size v n xs) {g : Nat} (hg : v.ownBlock = some g) : ∀ j u, xs[j]? = some u → w.cell? ((⟨g, 0, none⟩ : Addr).add j) = some u := by
  intro j u hj
  rcases h.2 with ⟨rfl, _⟩ | ⟨g', cap, cur, rfl, h3, h4, h5, h6, h7⟩
  · simp [Value.ownBlock] at hg
  · obtain rfl : g' = g := by simpa [Value.ownBlock] using hg
    have ea : (⟨g', 0, none⟩ : Addr).add j = ⟨g', j, none⟩ := by simp [Addr.add]; omega
    rw [ea]
    rw [← h7, List.getElem?_take] at hj
    split at hj
    · simp only [World.cell?, h3]
      rw [Array.getElem?_toList] at hj
      simpa using hj
    · cases hj
/-- Bytes: what the slice reads. -/
theorem gown_reads {w : World} {v : Value} {l : List UInt8} (h : GOwn w 5 1 v l.length (l.map bc)) : Reads w v l := by
  have hc := @GOwn.cells _ _ _ _ _ _ h
  rcases h.2 with ⟨rfl, h0⟩ | ⟨g, cap, cur, rfl, h3, h4, h5, h6, h7⟩
  · exact .inl ⟨List.length_eq_zero_iff.1 h0, none, 0, rfl, fun _ => rfl⟩
  · rcases Nat.eq_zero_or_pos l.length with h0 | h0
    · exact .inl ⟨List.length_eq_zero_iff.1 h0, _, cap, by rw [h0], fun q => by cases q⟩
    · refine .inr ⟨g, 0, cap, rfl, h0, h4, h5, (Array.getElem?_eq_some_iff.1 h3).1, fun j hj => ?_⟩
      have := hc (g := g) rfl j (bc l[j]) (by simp [hj])
      have ea : (⟨g, 0, none⟩ : Addr).add j = ⟨g, 0 + j, none⟩ := by simp [Addr.add]; omega
      rw [ea] at this
      exact this
/-- Where what is appended stands. -/
def GSrc (w : World) (size : Nat) (vx : Value) (m : Nat) (news : List Value) : Prop :=
  news.length = m * size ∧ ((vx = .slice none 0 0 ∧ m = 0) ∨ ∃ a c, vx = .slice (some a) m c ∧ ∀ j u, news[j]? = some u → w.cell? (a.add j) = some u)
theorem reads_src {w : World} {v : Value} {l : List UInt8} (h : Reads w v l) : GSrc w 1 v l.length (l.map bc) := by
  refine ⟨by simp, ?_⟩
  rcases h with ⟨rfl, a, cap, rfl, hn⟩ | ⟨b, off, cap, rfl, h2, h3, h4, h5, h6⟩
  · cases a with
    | none => exact .inl ⟨by rw [hn rfl], rfl⟩
    | some a => exact .inr ⟨a, cap, rfl, fun j u hj => by simp at hj⟩
  · exact .inr ⟨_, cap, rfl, newsR h6⟩
theorem run_gapp {P : Program} {w : World} (t ty e : TypeId) (i : TypeInfo) (z : Value) (size bytes : Nat) (ht : P.underlying t = some (.slice e)) (hi : P.info? e = some i) (hz : i.zero = some z)
    (hsize : i.size = size) (hby : i.bytes = bytes) (hzs : z.cells.size = size)
    (v : Value) (n : Nat) (xs : List Value) (hown : GOwn w e size v n xs) (vx : Value) (m : Nat) (news : List Value) (hx : GSrc w size vx m news) (h1 : ∀ u ∈ news, u.oneCell' = true)
    (h63 : n + m ≤ maxLen) (hbytes : (n + m) * bytes ≤ 140737488355328) :
    ∃ v' w', (Builtin.append_ #[t, t] ty #[v, vx]).run P w = .ok v' w' ∧ GOwn w' e size v' (n + m) (xs ++ news) ∧ w.grownBy w' v.ownBlock ∧ (∀ k, v'.ownBlock = some k → v.ownBlock = some k ∨ (w.heap.size ≤ k ∧ k < w'.heap.size)) := by
  subst hsize
  subst hby
  have hsmall : n + m ≤ 9223372036854775807 := by simp only [maxLen] at h63; omega
  obtain ⟨hl, hx⟩ := hx
  have hlen : (xs ++ news).length = (n + m) * i.size := by rw [List.length_append, hown.1, hl, Nat.add_mul]
  have grown : ∀ (old : Nat), old < n + m → ∀ (row : Option Nat),
      GOwn (w.drew.alloc (.cells (xs.toArray ++ news.toArray ++ Builtin.zeroCells z.cells (grownCap w (n + m) old e - (n + m))) e)) e i.size
        (.slice (some ⟨w.heap.size, 0, none⟩) (n + m) (grownCap w (n + m) old e)) (n + m) (xs ++ news) ∧
      w.grownBy (w.drew.alloc (.cells (xs.toArray ++ news.toArray ++ Builtin.zeroCells z.cells (grownCap w (n + m) old e - (n + m))) e)) row := by
    intro old ho row
    have hge := grownCap_ge w (n + m) old e
    have hcm : grownCap w (n + m) old e ≤ maxLen := grownCap_le_maxLen w (n + m) old e h63
    refine ⟨⟨hlen, .inr ⟨w.heap.size, _, _, rfl, heap_alloc_new w.drew _, hge, hcm, ?_, ?_⟩⟩, ⟨rfl, rfl, rfl, by simp, fun k hk _ => Below.heap_alloc w.drew _ k hk⟩⟩
    · simp only [Array.size_append, List.size_toArray, size_zeroCells, hzs, hown.1, hl, ← Nat.add_mul]
      exact Nat.mul_le_mul_right _ (by omega)
    · simp only [Array.toList_append, List.append_assoc]
      rw [← List.append_assoc, ← hlen]
      exact List.take_left
  rcases hx with ⟨rfl, rfl⟩ | ⟨a, c, rfl, hnews⟩
  · have hn : news = [] := List.eq_nil_of_length_eq_zero (by simpa using hl)
    subst hn
    rw [Nat.add_zero, List.append_nil]
    refine ⟨v, w, ?_, hown, ⟨rfl, rfl, rfl, Nat.le_refl _, fun _ _ _ => rfl⟩, fun k hk => .inl hk⟩
    rcases hown.2 with ⟨rfl, rfl⟩ | ⟨g, cap, cur, rfl, hg, hnc, hcm, hcs, htake⟩
    · simp [Builtin.append_, run_underlying ht, sizeOf, typeInfo, hi, Builtin.lenOf, Builtin.firstCells]
    · have hst := run_storeCells_at P g (n * i.size) e [] 0 cur w hg (by have := Nat.mul_le_mul_right i.size hnc; simp; omega) (by simp)
      simp only [Nat.add_zero] at hst
      simp [Builtin.append_, run_underlying ht, sizeOf, typeInfo, hi, Builtin.lenOf, hnc, Builtin.firstCells, storeCells]
  · rcases hown.2 with ⟨rfl, rfl⟩ | ⟨g, cap, cur, rfl, hg, hnc, hcm, hcs, htake⟩
    · have hxn : xs = [] := List.eq_nil_of_length_eq_zero (by simpa using hown.1)
      subst hxn
      by_cases hm : m = 0
      · subst hm
        have hn : news = [] := List.eq_nil_of_length_eq_zero (by simpa using hl)
        subst hn
        refine ⟨.slice none 0 0, w, ?_, hown, ⟨rfl, rfl, rfl, Nat.le_refl _, fun _ _ _ => rfl⟩, fun k hk => by simp [Value.ownBlock] at hk⟩
        simp [Builtin.append_, run_underlying ht, sizeOf, typeInfo, hi, Builtin.lenOf, Builtin.firstCells, loadCells, loadCellsFrom]
      · have hr := run_append_nil (P := P) w t ty e i z ht hi hz a m c news hl hnews (by omega) (by omega) (by have hb := hbytes; simp only [Nat.zero_add] at hb; omega)
        have hgr := grown 0 (by omega) (Value.ownBlock (.slice none 0 0))
        simp only [Nat.zero_add, List.nil_append, Array.empty_append] at hgr ⊢
        exact ⟨_, _, hr, hgr.1, hgr.2, fun k hk => .inr (by simp [Value.ownBlock] at hk; simp; omega)⟩
    · by_cases hroom : n + m ≤ cap
      · have hfit : n * i.size + news.length ≤ cur.size := by rw [hl, ← Nat.add_mul]; exact Nat.le_trans (Nat.mul_le_mul_right _ hroom) hcs
        have hr := run_append_room (P := P) w t ty e i ht hi g n cap cur hg a m c news hl hnews h1 hroom hfit
        refine ⟨_, _, hr, ⟨hlen, .inr ⟨g, cap, _, rfl, setRow_heap w g cur _ e _ hg, hroom, hcm, ?_, ?_⟩⟩, ⟨rfl, rfl, rfl, by simp, fun k _ hk => setRow_other w g k _ (fun e => hk (by simp [Value.ownBlock, e]))⟩, fun k hk => .inl hk⟩
        · simp only [List.size_toArray, List.length_append, List.length_take, List.length_drop, Array.length_toList]
          omega
        · rw [htake, ← hlen]
          exact List.take_left
      · have holds : ∀ j u, xs[j]? = some u → w.cell? ((⟨g, 0, none⟩ : Addr).add j) = some u := hown.cells (g := g) rfl
        have hr := run_append_grow (P := P) w t ty e i z ht hi hz ⟨g, 0, none⟩ n cap xs hown.1 holds a m c news hl hnews (by omega) (by omega) (growslice_fits (by omega) hbytes)
        have hgr := grown cap (by omega) (Value.ownBlock (.slice (some ⟨g, 0, none⟩) n cap))
        exact ⟨_, _, hr, hgr.1, hgr.2, fun k hk => .inr (by simp [Value.ownBlock] at hk; simp; omega)⟩
/-- Bytes. -/
def BOwn (w : World) (v : Value) (l : List UInt8) : Prop := GOwn w 5 1 v l.length (l.map bc)
theorem BOwn.reads {w : World} {v : Value} {l : List UInt8} (h : BOwn w v l) : Reads w v l := gown_reads h
end Go.Proofs.Ytlpjdfgknmfmnaa

/- table: Write of any list. -/
namespace Go.Proofs.Ytlpjdfgknmfmnaa
open Go.RowKit Go.Shelf
attribute [local go_sem] Oper.semAt_some

theorem wp_app_runT {w w' : World} {o : Oper} {a : Act} {K : Act → World → Prop} {Q : Exit → Act → World → Prop} (s x : Operand) (t ty : TypeId) (ho : o.op = .call { callee := .builtin .append, args := #[s, x], argTypes := #[t, t] }) (hty : o.type = ty) (v vx v' : Value) (hs : a.eval s = v) (hx : a.eval x = vx)
    (hrun : (Builtin.append_ #[t, t] ty #[v, vx]).run Try.prog w = .ok v' w') (h : K (a.put o.dst v') w') : o.wp Try.prog a w K Q := by
  subst hty
  unfold Oper.wp
  simp [execOp, ho, resolve, invoke, builtin, hs, hx, hrun, Result.andThen]
  exact h
theorem wpList_app_runT {w w' : World} {ops : Array Oper} {rest : List Oper} {o : Oper} {a : Act} {Q : Exit → Act → World → Prop} (hgd : o.guard = none) (s x : Operand) (t ty : TypeId) (ho : o.op = .call { callee := .builtin .append, args := #[s, x], argTypes := #[t, t] }) (hty : o.type = ty) (v vx v' : Value) (hs : a.eval s = v) (hx : a.eval x = vx)
    (hrun : (Builtin.append_ #[t, t] ty #[v, vx]).run Try.prog w = .ok v' w') (h : wpList Try.prog ops Q rest (a.put o.dst v') w') : wpList Try.prog ops Q (o :: rest) a w :=
  wpList_plain hgd fun _ hK => wp_app_runT s x t ty ho hty v vx v' hs hx hrun (hK _ _ h)
theorem keeps_below {A B : World} (h : Below A.heap.size A B) : KeepsOthers A B := ⟨h.size, fun k _ hk _ => (h.block k (Array.getElem?_eq_some_iff.1 hk).1).trans hk⟩
theorem keeps_row {A B : World} {base : Nat} {e : TypeId} {size : Nat} {v : Value} {n : Nat} {xs : List Value} (h : A.ownsRow base e size v n xs) (hg : A.grownBy B v.ownBlock) : KeepsOthers A B :=
  KeepsOthers.of_grownBy hg fun j o ej hj => by
    rcases h.2 with ⟨rfl, _⟩ | ⟨g, cap, cur, rfl, _, hgb, _⟩
    · simp [Value.ownBlock] at ej
    · obtain rfl : g = j := by simpa [Value.ownBlock] using ej
      rw [hgb] at hj; cases hj; rfl
/-- Another row of another type stands where a row grows. -/
theorem row_other {w w1 : World} {b1 b2 e1 e2 s1 s2 : Nat} {v z : Value} {n k : Nat} {ls xs : List Value} (h : w.ownsRow b1 e1 s1 v n ls) (hr : w.ownsRow b2 e2 s2 z k xs) (he : e2 ≠ e1) (hg : w.grownBy w1 v.ownBlock) : w1.ownsRow b2 e2 s2 z k xs := by
  refine hr.kept hg ?_
  rcases hr.2 with ⟨rfl, _⟩ | ⟨g, cap, cur, rfl, _, hgb, _⟩
  · exact .inl rfl
  · refine .inr fun e' => ?_
    rcases h.2 with ⟨rfl, _⟩ | ⟨g', cap', cur', rfl, _, hgb', _⟩
    · simp [Value.ownBlock] at e'
    · obtain rfl : g = g' := by simpa [Value.ownBlock] using e'
      rw [hgb] at hgb'
      simp at hgb'
      exact he hgb'.2
/-- A row of pairs of one's own, whose keys are of before. -/
def IxR (w W : World) (base : Nat) (ob : Option Nat) (v : Value) (l : List Pr) : Prop := ∃ xs : List Pe, W.ownsRow base 53 2 v xs.length (xs.flatMap p2) ∧ xs.map Pe.p = l ∧ ∀ x ∈ xs, Reads w x.kv x.p.1 ∧ Own W base x.vv x.p.2 ∧ ∀ k, x.vv.ownBlock = some k → ob ≠ some k
theorem IxR.nil (w W : World) (base : Nat) (ob : Option Nat) : IxR w W base ob (.slice none 0 0) [] := ⟨[], World.ownsRow_nil _ _ _ _, rfl, fun _ h => by cases h⟩
theorem IxR.kc {w : World} {n : Nat} {A B : World} {base : Nat} {ob : Option Nat} {v : Value} {l : List Pr} (h : IxR w A base ob v l) (hk : Kc n A B) : IxR w B base ob v l := by
  obtain ⟨xs, h1, h2, h3⟩ := h
  exact ⟨xs, row_kc h1 hk, h2, fun x hx => ⟨(h3 x hx).1, (h3 x hx).2.1.kc hk, (h3 x hx).2.2⟩⟩
theorem IxR.below {w A B : World} {base : Nat} {ob : Option Nat} {v : Value} {l : List Pr} (h : IxR w A base ob v l) (hb : Below A.heap.size A B) : IxR w B base ob v l := h.kc (Kc.of_below hb (Nat.le_refl _))
theorem IxR.form {w W : World} {base : Nat} {ob : Option Nat} {v : Value} {l : List Pr} (h : IxR w W base ob v l) : ∃ a c, v = .slice a l.length c := by
  obtain ⟨xs, h1, h2, _⟩ := h
  have e : l.length = xs.length := by rw [← h2, List.length_map]
  rcases h1.2 with ⟨g1, g2⟩ | ⟨g, cap, cur, g1, _⟩
  · exact ⟨none, 0, by rw [g1, e, g2]⟩
  · exact ⟨_, cap, by rw [g1, e]⟩
theorem IxR.setB {w W : World} {base B : Nat} {ob : Option Nat} {t : TypeId} {v u : Value} {l : List Pr} (u' : Value) (h : IxR w W base ob v l) (hb : Boxed W B t u) (h1 : t ≠ 5) (h2 : t ≠ 53) : IxR w (W.setCell ⟨B, 0, none⟩ u') base ob v l := by
  obtain ⟨xs, g1, g2, g3⟩ := h
  exact ⟨xs, g1.kept (grownBy_setCell' W B u') (.inr (hb.not_row h2 g1).symm), g2, fun x hx => ⟨(g3 x hx).1, own_set u' (g3 x hx).2.1 hb h1, (g3 x hx).2.2⟩⟩
theorem IxR.reads {w W : World} {base : Nat} {ob : Option Nat} {v : Value} {l : List Pr} (h : IxR w W base ob v l) (hb : Below w.heap.size w W) : PReads W v l := by
  obtain ⟨xs, h1, rfl, h3⟩ := h
  have hlt := World.ownsRow.lt h1
  rcases h1.2 with ⟨g1, g2⟩ | ⟨g, cap, cur, hv, hg, hw, hc, hm, _⟩
  · have : xs = [] := List.length_eq_zero_iff.1 g2
    subst this
    exact ⟨none, 0, by rw [g1]; rfl, Nat.le_refl _, Nat.zero_le _, .inl rfl⟩
  · rw [hv] at h1
    refine ⟨_, cap, by rw [hv, List.length_map], by rw [List.length_map]; exact hc, hm, .inr ⟨g, 0, rfl, (hlt g (by rw [hv]; rfl)).2, fun j hj => ?_⟩⟩
    rw [List.length_map] at hj
    have e0 := flat2 xs j 0 hj (by decide)
    have e1 := flat2 xs j 1 hj (by decide)
    obtain ⟨q1, q2, _⟩ := h3 xs[j] (List.getElem_mem hj)
    refine ⟨xs[j].kv, xs[j].vv, ?_, ?_, ?_, ?_⟩
    · rw [show 0 + j * 2 = 2 * j + 0 by omega, World.ownsRow.cellAt h1 _ (by omega), e0]; rfl
    · rw [show 0 + j * 2 + 1 = 2 * j + 1 by omega, World.ownsRow.cellAt h1 _ (by omega), e1]; rfl
    · rw [List.getElem_map]; exact q1.below hb
    · rw [List.getElem_map]; exact q2.reads
/-- While rows are written. -/
structure IW (w : World) (zz : Nat) (v : Value) (L : List Et) (pre : List Value) (W : World) : Prop where
  o : ∃ vo vi, Boxed W zz 25 vo ∧ Own W zz vo (cat ((tRows L).take pre.length)) ∧ Boxed W (zz + 1) 47 vi ∧ IxR w W zz vo.ownBlock vi ((tIdx L).take pre.length)
  s : Boxed W (zz + 1 + 1) 22 v
  n : Boxed W (zz + 1 + 1 + 1) 3 (.int .i64 16)
  b : Below w.heap.size w W
  z : w.heap.size ≤ zz
theorem IW.kc {w : World} {z : Nat} {v : Value} {L : List Et} {pre : List Value} {A B : World} (h : IW w z v L pre A) (hk : Kc z A B) : IW w z v L pre B := by
  obtain ⟨⟨vo, vi, h1, h2, h3, h4⟩, h5, h6, h7, h8⟩ := h
  exact ⟨⟨vo, vi, boxed_kc_C h1 hk, h2.kc hk, boxed_kc_C h3 hk, h4.kc hk⟩, boxed_kc_C h5 hk, boxed_kc_C h6 hk, h7.trans (hk.b.mono h8), h8⟩
/-- Within a round: what stands, and what has been kept. -/
structure JW (w : World) (zz : Nat) (v vo : Value) (O : List UInt8) (vi : Value) (X : List Pr) (W0 W : World) : Prop where
  o1 : Boxed W zz 25 vo
  o2 : Own W zz vo O
  i1 : Boxed W (zz + 1) 47 vi
  i2 : IxR w W zz vo.ownBlock vi X
  s : Boxed W (zz + 1 + 1) 22 v
  n : Boxed W (zz + 1 + 1 + 1) 3 (.int .i64 16)
  b : Below w.heap.size w W
  z : w.heap.size ≤ zz
  k : KeepsOthers W0 W
  bz : Below zz W0 W
  zl : zz ≤ W.heap.size
theorem JW.below {w : World} {zz : Nat} {v vo : Value} {O : List UInt8} {vi : Value} {X : List Pr} {W0 W W' : World} (h : JW w zz v vo O vi X W0 W) (hb : Below W.heap.size W W') : JW w zz v vo O vi X W0 W' := by
  have hk : Kc zz W W' := Kc.of_below hb h.zl
  exact ⟨boxed_kc_C h.o1 hk, h.o2.kc hk, boxed_kc_C h.i1 hk, h.i2.kc hk, boxed_kc_C h.s hk, boxed_kc_C h.n hk, h.b.trans (hb.mono h.b.size), h.z, h.k.trans (keeps_below hb), h.bz.trans hk.b, Nat.le_trans h.zl hb.size⟩
theorem JW.drew {w : World} {zz : Nat} {v vo : Value} {O : List UInt8} {vi : Value} {X : List Pr} {W0 W : World} (h : JW w zz v vo O vi X W0 W) : JW w zz v vo O vi X W0 W.drew := h.below (Below.refl _ _).drew
/-- A pair more. -/
theorem JW.app {w : World} {zz : Nat} {v vo : Value} {O : List UInt8} {vi : Value} {X : List Pr} {W0 W : World} (h : JW w zz v vo O vi X W0 W) {kv vv : Value} {k u : List UInt8} (hk : Reads w kv k) (hv : Own W zz vv u) (hap : ∀ k, vv.ownBlock = some k → vo.ownBlock ≠ some k) {B : Nat}
    (hc : W.heap[B]? = some (.cells #[kv, vv] 53)) (hX : X.length ≤ 100000) (ty : TypeId) :
    ∃ v' w1, (Builtin.append_ #[47, 47] ty #[vi, .slice (some ⟨B, 0, none⟩) 1 1]).run Try.prog W = .ok v' w1 ∧ (∃ a c, v' = .slice a (X.length + 1) c) ∧ w1.cell? ⟨zz + 1, 0, none⟩ = some vi ∧ w1.frozen? ⟨zz + 1, 0, none⟩ = false ∧ w1.cell? ⟨zz, 0, none⟩ = some vo ∧ JW w zz v vo O v' (X ++ [(k, u)]) W0 (w1.setCell ⟨zz + 1, 0, none⟩ v') := by
  obtain ⟨i0, hi, hz0, hz1, hz2⟩ := info_parts infoP
  obtain ⟨xs, g1, g2, g3⟩ := h.i2
  have hxl : xs.length = X.length := by rw [← g2, List.length_map]
  have hnews : ∀ j u, [kv, vv][j]? = some u → W.cell? ((⟨B, 0, none⟩ : Addr).add j) = some u := by
    intro j u hj
    match j, hj with
    | 0, hj => simp at hj; subst hj; simp [World.cell?, hc, Addr.add]
    | 1, hj => simp at hj; subst hj; simp [World.cell?, hc, Addr.add]
  obtain ⟨ak, ck, ek, _⟩ := hk.form
  obtain ⟨av, cv, ev, _⟩ := hv.form
  obtain ⟨v', w1, hrun, hown, hg, _⟩ := run_append_own (P := Try.prog) W zz 47 ty 53 i0 _ 2 48 Try.underlying47 hi hz0 hz1 hz2 rfl (by decide) vi xs.length (xs.flatMap p2) g1 ⟨B, 0, none⟩ 1 1 [kv, vv] rfl hnews (by rw [ek, ev]; simp [Value.oneCell']) (by unfold maxLen; omega) (by omega) h.zl
  have hi1 : Boxed w1 (zz + 1) 47 vi := h.i1.kept hg (h.i1.not_row (by decide) g1)
  have hO1 : Own w1 zz vo O := row_other g1 h.o2 (by decide) hg
  have ho1 : Boxed w1 zz 25 vo := h.o1.kept hg (h.o1.not_row (by decide) g1)
  have hs1 := h.s.kept hg (h.s.not_row (by decide) g1)
  have hn1 := h.n.kept hg (h.n.not_row (by decide) g1)
  have hbz : Below zz W w1 := (Below.refl _ _).grown hg h.zl (own_block g1)
  have hX1 : IxR w w1 zz vo.ownBlock v' (X ++ [(k, u)]) := by
    refine ⟨xs ++ [⟨kv, vv, (k, u), undef, []⟩], by rw [List.length_append, List.flatMap_append]; exact hown, by rw [List.map_append, g2]; rfl, fun x hx => ?_⟩
    rcases List.mem_append.1 hx with hx | hx
    · exact ⟨(g3 x hx).1, row_other g1 (g3 x hx).2.1 (by decide) hg, (g3 x hx).2.2⟩
    · simp at hx; subst hx; exact ⟨hk, row_other g1 hv (by decide) hg, hap⟩
  have gs := grownBy_setCell' w1 (zz + 1) v'
  refine ⟨v', w1, hrun, ?_, hi1.cell, hi1.frozen, ho1.cell, ⟨ho1.kept gs (fun e => by have := Option.some.inj e; omega), own_set v' hO1 hi1 (by decide), hi1.set v', ?_, hs1.kept gs (fun e => by have := Option.some.inj e; omega), hn1.kept gs (fun e => by have := Option.some.inj e; omega), ?_, h.z, ?_, ?_, ?_⟩⟩
  · obtain ⟨a, c, e⟩ := hX1.form
    exact ⟨a, c, by rw [e, List.length_append]; rfl⟩
  · obtain ⟨ys, q1, q2, q3⟩ := hX1
    exact ⟨ys, q1.kept gs (.inr (hi1.not_row (by decide) q1).symm), q2, fun x hx => ⟨(q3 x hx).1, own_set v' (q3 x hx).2.1 hi1 (by decide), (q3 x hx).2.2⟩⟩
  · exact (h.b.trans (hbz.mono h.z)).setCell (p := ⟨zz + 1, 0, none⟩) (by have := h.z; show w.heap.size ≤ zz + 1; omega) _
  · exact (h.k.trans (keeps_row g1 hg)).trans (KeepsOthers.setCell _ _ _)
  · exact (h.bz.trans hbz).setCell (p := ⟨zz + 1, 0, none⟩) (by show zz ≤ zz + 1; omega) _
  · have := hbz.size; have := h.zl; simp [World.setCell]; omega
/-- Bytes more. -/
theorem JW.appO {w : World} {zz : Nat} {v vo : Value} {O : List UInt8} {vi : Value} {X : List Pr} {W0 W : World} (h : JW w zz v vo O vi X W0 W) {vx : Value} {l : List UInt8} (hr : Reads W vx l) (h0 : 0 < l.length) (hO : O.length + l.length ≤ 140737488355328) (ty : TypeId) :
    ∃ v' w1, (Builtin.append_ #[25, 25] ty #[vo, vx]).run Try.prog W = .ok v' w1 ∧ (∃ a c, v' = .slice a (O ++ l).length c) ∧ w1.cell? ⟨zz, 0, none⟩ = some vo ∧ w1.frozen? ⟨zz, 0, none⟩ = false ∧ w1.cell? ⟨zz + 1, 0, none⟩ = some vi ∧ JW w zz v v' (O ++ l) vi X W0 (w1.setCell ⟨zz, 0, none⟩ v') ∧ Own w1 zz v' (O ++ l) ∧ Below w.heap.size w w1 ∧ KeepsOthers W0 w1 := by
  obtain ⟨i0, hi, hz0, hz1, hz2⟩ := info_parts info5
  rcases hr with ⟨rfl, _⟩ | ⟨b, off, cap, rfl, h2, h3, h4, h5, h6⟩
  · simp at h0
  obtain ⟨v', w1, hrun, hown, hg, _⟩ := run_append_own (P := Try.prog) W zz 25 ty 5 i0 _ 1 1 Try.underlying25 hi hz0 hz1 hz2 rfl (by decide) vo O.length (O.map bc) h.o2 ⟨b, off, none⟩ l.length cap (l.map bc) (by simp) (newsR h6) one_bc (by unfold maxLen; omega) (by omega) h.zl
  obtain ⟨xs, g1, g2, g3⟩ := h.i2
  have hown2 : Own w1 zz v' (O ++ l) := by unfold Own; rw [List.length_append, List.map_append]; exact hown
  have ho1 : Boxed w1 zz 25 vo := h.o1.kept hg (h.o1.not_row (by decide) h.o2)
  have hi1 : Boxed w1 (zz + 1) 47 vi := h.i1.kept hg (h.i1.not_row (by decide) h.o2)
  have hs1 := h.s.kept hg (h.s.not_row (by decide) h.o2)
  have hn1 := h.n.kept hg (h.n.not_row (by decide) h.o2)
  have hbz : Below zz W w1 := (Below.refl _ _).grown hg h.zl (own_block h.o2)
  have gs := grownBy_setCell' w1 zz v'
  have hG : GOwn W 5 1 vo O.length (O.map bc) := ⟨h.o2.1, by
    rcases h.o2.2 with q | ⟨g, cp, cur, e1, _, e2, e3, e4, e5⟩
    · exact .inl q
    · exact .inr ⟨g, cp, cur, e1, e2, e3, e4, by rw [e5.1]; exact Nat.le_refl _, e5.2⟩⟩
  obtain ⟨v2, w2, hrun2, _, _, hwh⟩ := run_gapp (P := Try.prog) 25 ty 5 i0 _ 1 1 Try.underlying25 hi hz0 hz1 hz2 rfl vo O.length (O.map bc) hG (.slice (some ⟨b, off, none⟩) l.length cap) l.length (l.map bc) (reads_src (.inr ⟨b, off, cap, rfl, h2, h3, h4, h5, h6⟩)) one_bc (by unfold maxLen; omega) (by omega)
  rw [hrun] at hrun2
  cases hrun2
  have hX1 : IxR w w1 zz v'.ownBlock vi X := by
    refine ⟨xs, row_other h.o2 g1 (by decide) hg, g2, fun x hx => ⟨(g3 x hx).1, ?_, fun k hk e => ?_⟩⟩
    · refine (g3 x hx).2.1.kept hg ?_
      rcases hob : x.vv.ownBlock with _ | k
      · exact .inl rfl
      · exact .inr (fun e => (g3 x hx).2.2 k hob e.symm)
    · rcases hwh k e with q | q
      · exact (g3 x hx).2.2 k hk q
      · have := (World.ownsRow.lt (g3 x hx).2.1 k hk).2; omega
  refine ⟨v', w1, hrun, ?_, ho1.cell, ho1.frozen, hi1.cell, ⟨ho1.set v', own_set v' hown2 ho1 (by decide), hi1.kept gs (fun e => by have := Option.some.inj e; omega), hX1.setB v' ho1 (by decide) (by decide), hs1.kept gs (fun e => by have := Option.some.inj e; omega), hn1.kept gs (fun e => by have := Option.some.inj e; omega), ?_, h.z, ?_, ?_, ?_⟩, hown2, h.b.trans (hbz.mono h.z), h.k.trans (keeps_row h.o2 hg)⟩
  · obtain ⟨a, c, e, _⟩ := hown2.form
    exact ⟨a, c, e⟩
  · exact (h.b.trans (hbz.mono h.z)).setCell (p := ⟨zz, 0, none⟩) h.z _
  · exact (h.k.trans (keeps_row h.o2 hg)).trans (KeepsOthers.setCell _ _ _)
  · exact (h.bz.trans hbz).setCell (p := ⟨zz, 0, none⟩) (Nat.le_refl _) _
  · have := hbz.size; have := h.zl; simp [World.setCell]; omega
end Go.Proofs.Ytlpjdfgknmfmnaa
