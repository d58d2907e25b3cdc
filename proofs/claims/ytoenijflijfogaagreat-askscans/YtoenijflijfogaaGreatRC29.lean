/- GAp AQ5 AQT, joined. -/
import Derived.Test.YtoenijflijfogaaGreatRC3
import Derived.Test.YtoenijflijfogaaGreatRC26
import Derived.Test.YtoenijflijfogaaGreatRC27
import Derived.Test.YtoenijflijfogaaGreatRC28
import Derived.Laws.AppendOwn
import Derived.Laws.AppendOwnNone
import Derived.Sort.KeysCollected
/- Append to a row whose capacity may end ahead of its block, with where the new row lies; what a call touches, as a set of blocks. -/
namespace Go.Proofs.YtoenijflijfogaaGreat
open Go.RowKit

/-- Nothing that was there has turned but blocks of O. -/
structure Onl (O : Nat → Prop) (w w' : World) : Prop where
  os : w'.os = w.os
  tape : w'.tape = w.tape
  output : w'.output = w.output
  size : w.heap.size ≤ w'.heap.size
  block : ∀ k, k < w.heap.size → ¬ O k → w'.heap[k]? = w.heap[k]?
/-- O, and what is new. -/
def Grw (O : Nat → Prop) (w w' : World) (k : Nat) : Prop := O k ∨ (w.heap.size ≤ k ∧ k < w'.heap.size)
theorem Onl.refl (O : Nat → Prop) (w : World) : Onl O w w := ⟨rfl, rfl, rfl, Nat.le_refl _, fun _ _ _ => rfl⟩
theorem Onl.trans {O : Nat → Prop} {w w1 w2 : World} (h : Onl O w w1) (h' : Onl (Grw O w w1) w1 w2) : Onl O w w2 :=
  ⟨h'.os.trans h.os, h'.tape.trans h.tape, h'.output.trans h.output, Nat.le_trans h.size h'.size, fun k hk ho => (h'.block k (Nat.lt_of_lt_of_le hk h.size) (fun q => q.elim ho (fun r => by omega))).trans (h.block k hk ho)⟩
theorem Onl.mono {O O' : Nat → Prop} {w w' : World} (h : Onl O w w') (hO : ∀ k, O k → O' k) : Onl O' w w' := ⟨h.os, h.tape, h.output, h.size, fun k hk ho => h.block k hk (fun q => ho (hO k q))⟩
theorem Onl.then {O : Nat → Prop} {w w1 w2 : World} (h : Onl O w w1) (h' : Onl O w1 w2) : Onl O w w2 := h.trans (h'.mono fun _ q => .inl q)
theorem Onl.below {O : Nat → Prop} {w w' : World} {base : Nat} (h : Onl O w w') (hb : base ≤ w.heap.size) (hO : ∀ k, O k → base ≤ k) : Below base w w' := ⟨h.os, h.tape, h.output, h.size, fun k hk => h.block k (by omega) (fun q => by have := hO k q; omega)⟩
theorem onl_of_below {O : Nat → Prop} {w w' : World} (h : Below w.heap.size w w') : Onl O w w' := ⟨h.os, h.tape, h.output, h.size, fun k hk _ => h.block k hk⟩
theorem Grw.lt {O : Nat → Prop} {w w' : World} (h : ∀ k, O k → k < w.heap.size) (hs : w.heap.size ≤ w'.heap.size) : ∀ k, Grw O w w' k → k < w'.heap.size := fun k hk => hk.elim (fun q => Nat.lt_of_lt_of_le (h k q) hs) (fun q => q.2)
theorem Grw.trans {O : Nat → Prop} {w w1 w2 : World} (h1 : w.heap.size ≤ w1.heap.size) (h2 : w1.heap.size ≤ w2.heap.size) : ∀ k, Grw (Grw O w w1) w1 w2 k → Grw O w w2 k := fun k hk => by
  rcases hk with (q | q) | q
  · exact .inl q
  · exact .inr ⟨q.1, by omega⟩
  · exact .inr ⟨by omega, q.2⟩
theorem Onl.set {O : Nat → Prop} {w : World} {a : Addr} (h : O a.block) (v : Value) : Onl O w (w.setCell a v) := by
  have hb := (Below.refl 0 w).setCell (p := a) (Nat.zero_le _) v
  exact ⟨hb.os, hb.tape, hb.output, hb.size, fun k _ ho => Below.heap_setCell _ _ _ _ (fun e => ho (e ▸ h))⟩
theorem Onl.alloc {O : Nat → Prop} {w : World} (o : Obj) : Onl O w (w.alloc o) := onl_of_below ((Below.refl _ _).alloc (Nat.le_refl _) _)
theorem Onl.grown {O : Nat → Prop} {w w' : World} {row : Option Nat} (h : w.grownBy w' row) (hr : ∀ k, row = some k → O k) : Onl O w w' := ⟨h.os, h.tape, h.output, h.size, fun k hk ho => h.block k hk (fun e => ho (hr k e.symm))⟩
/-- A row of one's own, in a block that may go on behind its capacity. -/
def GOwn (w : World) (e : TypeId) (size : Nat) (v : Value) (n : Nat) (xs : List Value) : Prop :=
  xs.length = n * size ∧ ((v = .slice none 0 0 ∧ n = 0) ∨ ∃ g cap cur, v = .slice (some ⟨g, 0, none⟩) n cap ∧ w.heap[g]? = some (.cells cur e (0, 0)) ∧ n ≤ cap ∧ cap ≤ maxLen ∧ cap * size ≤ cur.size ∧ cur.toList.take (n * size) = xs)
theorem GOwn.nil (w : World) (e : TypeId) (size : Nat) : GOwn w e size (.slice none 0 0) 0 [] := ⟨by simp, .inl ⟨rfl, rfl⟩⟩
theorem GOwn.keep {w w' : World} {e : TypeId} {size : Nat} {v : Value} {n : Nat} {xs : List Value} (h : GOwn w e size v n xs) (hk : ∀ k, v.ownBlock = some k → w'.heap[k]? = w.heap[k]?) : GOwn w' e size v n xs := by
  refine ⟨h.1, ?_⟩
  rcases h.2 with h2 | ⟨g, cap, cur, rfl, h3, r⟩
  · exact .inl h2
  · exact .inr ⟨g, cap, cur, rfl, (hk g rfl).trans h3, r⟩
theorem GOwn.block {w : World} {e : TypeId} {size : Nat} {v : Value} {n : Nat} {xs : List Value} (h : GOwn w e size v n xs) {k : Nat} (hk : v.ownBlock = some k) : ∃ cur, w.heap[k]? = some (.cells cur e (0, 0)) := by
  rcases h.2 with ⟨rfl, _⟩ | ⟨g, cap, cur, rfl, h3, r⟩
  · simp [Value.ownBlock] at hk
  · obtain rfl : g = k := by simpa [Value.ownBlock] using hk
    exact ⟨cur, h3⟩
theorem GOwn.form {w : World} {e : TypeId} {size : Nat} {v : Value} {n : Nat} {xs : List Value} (h : GOwn w e size v n xs) : ∃ a cap, v = .slice a n cap ∧ n ≤ cap ∧ cap ≤ maxLen ∧ (∀ b, a = some b → b = ⟨b.block, 0, none⟩) ∧ (a = none → n = 0 ∧ cap = 0) := by
  rcases h.2 with ⟨rfl, rfl⟩ | ⟨g, cap, cur, rfl, h3, h4, h5, _⟩
  · exact ⟨none, 0, rfl, Nat.le_refl _, Nat.zero_le _, (fun b hb => by cases hb), (fun _ => ⟨rfl, rfl⟩)⟩
  · exact ⟨_, cap, rfl, h4, h5, fun b hb => by cases hb; rfl, fun hb => by cases hb⟩
theorem GOwn.cells {w : World} {e : TypeId} {size : Nat} {v : Value} {n : Nat} {xs : List Value} (h : GOwn w e size v n xs) {g : Nat} (hg : v.ownBlock = some g) : ∀ j u, xs[j]? = some u → w.cell? ((⟨g, 0, none⟩ : Addr).add j) = some u := by
  intro j u hj
  rcases h.2 with ⟨rfl, _⟩ | ⟨g', cap, cur, rfl, h3, h4, h5, h6, h7⟩
  · simp [Value.ownBlock] at hg
  · obtain rfl : g' = g := by simpa [Value.ownBlock] using hg
    have ea : (⟨g', 0, none⟩ : Addr).add j = ⟨g', j, none⟩ := by simp [Addr.add]; omega
    rw [ea]
    rw [← h7, List.getElem?_take] at hj
    split at hj
    · simp only [World.cell?, h3]
      rw [Array.getElem?_toList] at hj
      simpa using hj
    · cases hj
/-- Bytes: what the slice reads. -/
theorem gown_reads {w : World} {v : Value} {l : List UInt8} (h : GOwn w 5 1 v l.length (l.map bc)) : Reads w v l := by
  have hc := @GOwn.cells _ _ _ _ _ _ h
  rcases h.2 with ⟨rfl, h0⟩ | ⟨g, cap, cur, rfl, h3, h4, h5, h6, h7⟩
  · exact .inl ⟨List.length_eq_zero_iff.1 h0, none, 0, rfl, fun _ => rfl⟩
  · rcases Nat.eq_zero_or_pos l.length with h0 | h0
    · exact .inl ⟨List.length_eq_zero_iff.1 h0, _, cap, by rw [h0], fun q => by cases q⟩
    · refine .inr ⟨g, 0, cap, rfl, h0, h4, h5, (Array.getElem?_eq_some_iff.1 h3).1, fun j hj => ?_⟩
      have := hc (g := g) rfl j (bc l[j]) (by simp [hj])
      have ea : (⟨g, 0, none⟩ : Addr).add j = ⟨g, 0 + j, none⟩ := by simp [Addr.add]; omega
      rw [ea] at this
      exact this
/-- Where what is appended stands. -/
def GSrc (w : World) (size : Nat) (vx : Value) (m : Nat) (news : List Value) : Prop :=
  news.length = m * size ∧ ((vx = .slice none 0 0 ∧ m = 0) ∨ ∃ a c, vx = .slice (some a) m c ∧ ∀ j u, news[j]? = some u → w.cell? (a.add j) = some u)
theorem run_gapp {P : Program} {w : World} (t ty e : TypeId) (i : TypeInfo) (z : Value) (size bytes : Nat) (ht : P.underlying t = some (.slice e)) (hi : P.info? e = some i) (hz : i.zero = some z)
    (hsize : i.size = size) (hby : i.bytes = bytes) (hzs : z.cells.size = size)
    (v : Value) (n : Nat) (xs : List Value) (hown : GOwn w e size v n xs) (vx : Value) (m : Nat) (news : List Value) (hx : GSrc w size vx m news) (h1 : ∀ u ∈ news, u.oneCell' = true)
    (h63 : n + m ≤ maxLen) (hbytes : (n + m) * bytes ≤ 140737488355328) :
    ∃ v' w', (Builtin.append_ #[t, t] ty #[v, vx]).run P w = .ok v' w' ∧ GOwn w' e size v' (n + m) (xs ++ news) ∧ w.grownBy w' v.ownBlock ∧ (∀ k, v'.ownBlock = some k → v.ownBlock = some k ∨ (w.heap.size ≤ k ∧ k < w'.heap.size)) := by
  subst hsize
  subst hby
  have hsmall : n + m ≤ 9223372036854775807 := by simp only [maxLen] at h63; omega
  obtain ⟨hl, hx⟩ := hx
  have hlen : (xs ++ news).length = (n + m) * i.size := by rw [List.length_append, hown.1, hl, Nat.add_mul]
  have grown : ∀ (old : Nat), old < n + m → ∀ (row : Option Nat),
      GOwn (w.drew.alloc (.cells (xs.toArray ++ news.toArray ++ Builtin.zeroCells z.cells (grownCap w (n + m) old e - (n + m))) e)) e i.size
        (.slice (some ⟨w.heap.size, 0, none⟩) (n + m) (grownCap w (n + m) old e)) (n + m) (xs ++ news) ∧
      w.grownBy (w.drew.alloc (.cells (xs.toArray ++ news.toArray ++ Builtin.zeroCells z.cells (grownCap w (n + m) old e - (n + m))) e)) row := by
    intro old ho row
    have hge := grownCap_ge w (n + m) old e
    have hcm : grownCap w (n + m) old e ≤ maxLen := grownCap_le_maxLen w (n + m) old e h63
    refine ⟨⟨hlen, .inr ⟨w.heap.size, _, _, rfl, heap_alloc_new w.drew _, hge, hcm, ?_, ?_⟩⟩, ⟨rfl, rfl, rfl, by simp, fun k hk _ => Below.heap_alloc w.drew _ k hk⟩⟩
    · simp only [Array.size_append, List.size_toArray, size_zeroCells, hzs, hown.1, hl, ← Nat.add_mul]
      exact Nat.mul_le_mul_right _ (by omega)
    · simp only [Array.toList_append, List.append_assoc]
      rw [← List.append_assoc, ← hlen]
      exact List.take_left
  rcases hx with ⟨rfl, rfl⟩ | ⟨a, c, rfl, hnews⟩
  · have hn : news = [] := List.eq_nil_of_length_eq_zero (by simpa using hl)
    subst hn
    rw [Nat.add_zero, List.append_nil]
    refine ⟨v, w, ?_, hown, ⟨rfl, rfl, rfl, Nat.le_refl _, fun _ _ _ => rfl⟩, fun k hk => .inl hk⟩
    rcases hown.2 with ⟨rfl, rfl⟩ | ⟨g, cap, cur, rfl, hg, hnc, hcm, hcs, htake⟩
    · simp [Builtin.append_, run_underlying ht, sizeOf, typeInfo, hi, Builtin.lenOf, Builtin.firstCells]
    · have hst := run_storeCells_at P g (n * i.size) e [] 0 cur w hg (by have := Nat.mul_le_mul_right i.size hnc; simp; omega) (by simp)
      simp only [Nat.add_zero] at hst
      simp [Builtin.append_, run_underlying ht, sizeOf, typeInfo, hi, Builtin.lenOf, hnc, Builtin.firstCells, storeCells]
  · rcases hown.2 with ⟨rfl, rfl⟩ | ⟨g, cap, cur, rfl, hg, hnc, hcm, hcs, htake⟩
    · have hxn : xs = [] := List.eq_nil_of_length_eq_zero (by simpa using hown.1)
      subst hxn
      by_cases hm : m = 0
      · subst hm
        have hn : news = [] := List.eq_nil_of_length_eq_zero (by simpa using hl)
        subst hn
        refine ⟨.slice none 0 0, w, ?_, hown, ⟨rfl, rfl, rfl, Nat.le_refl _, fun _ _ _ => rfl⟩, fun k hk => by simp [Value.ownBlock] at hk⟩
        simp [Builtin.append_, run_underlying ht, sizeOf, typeInfo, hi, Builtin.lenOf, Builtin.firstCells, loadCells, loadCellsFrom]
      · have hr := run_append_nil (P := P) w t ty e i z ht hi hz a m c news hl hnews (by omega) (by omega) (by have hb := hbytes; simp only [Nat.zero_add] at hb; omega)
        have hgr := grown 0 (by omega) (Value.ownBlock (.slice none 0 0))
        simp only [Nat.zero_add, List.nil_append, Array.empty_append] at hgr ⊢
        exact ⟨_, _, hr, hgr.1, hgr.2, fun k hk => .inr (by simp [Value.ownBlock] at hk; simp; omega)⟩
    · by_cases hroom : n + m ≤ cap
      · have hfit : n * i.size + news.length ≤ cur.size := by rw [hl, ← Nat.add_mul]; exact Nat.le_trans (Nat.mul_le_mul_right _ hroom) hcs
        have hr := run_append_room (P := P) w t ty e i ht hi g n cap cur hg a m c news hl hnews h1 hroom hfit
        refine ⟨_, _, hr, ⟨hlen, .inr ⟨g, cap, _, rfl, setRow_heap w g cur _ e _ hg, hroom, hcm, ?_, ?_⟩⟩, ⟨rfl, rfl, rfl, by simp, fun k _ hk => setRow_other w g k _ (fun e => hk (by simp [Value.ownBlock, e]))⟩, fun k hk => .inl hk⟩
        · simp only [List.size_toArray, List.length_append, List.length_take, List.length_drop, Array.length_toList]
          omega
        · rw [htake, ← hlen]
          exact List.take_left
      · have holds : ∀ j u, xs[j]? = some u → w.cell? ((⟨g, 0, none⟩ : Addr).add j) = some u := hown.cells (g := g) rfl
        have hr := run_append_grow (P := P) w t ty e i z ht hi hz ⟨g, 0, none⟩ n cap xs hown.1 holds a m c news hl hnews (by omega) (by omega) (growslice_fits (by omega) hbytes)
        have hgr := grown cap (by omega) (Value.ownBlock (.slice (some ⟨g, 0, none⟩) n cap))
        exact ⟨_, _, hr, hgr.1, hgr.2, fun k hk => .inr (by simp [Value.ownBlock] at hk; simp; omega)⟩
/-- Bytes. -/
def BOwn (w : World) (v : Value) (l : List UInt8) : Prop := GOwn w 5 1 v l.length (l.map bc)
theorem BOwn.reads {w : World} {v : Value} {l : List UInt8} (h : BOwn w v l) : Reads w v l := gown_reads h
end Go.Proofs.YtoenijflijfogaaGreat

/- Rows of nine cells that grow. -/
namespace Go.Proofs.YtoenijflijfogaaGreat
open Go.RowKit

theorem wp_app_runG {w w' : World} {o : Oper} {a : Act} {K : Act → World → Prop} {Q : Exit → Act → World → Prop} (s x : Operand) (t ty : TypeId) (ho : o.op = .call { callee := .builtin .append, args := #[s, x], argTypes := #[t, t] }) (hty : o.type = ty) (v vx v' : Value) (hs : a.eval s = v) (hx : a.eval x = vx)
    (hrun : (Builtin.append_ #[t, t] ty #[v, vx]).run Tryz.prog w = .ok v' w') (h : K (a.put o.dst v') w') : o.wp Tryz.prog a w K Q := by
  subst hty
  unfold Oper.wp
  simp [execOp, ho, resolve, invoke, builtin, hs, hx, hrun, Result.andThen]
  exact h
theorem wpList_app_runG {w w' : World} {ops : Array Oper} {rest : List Oper} {o : Oper} {a : Act} {Q : Exit → Act → World → Prop} (hgd : o.guard = none) (s x : Operand) (t ty : TypeId) (ho : o.op = .call { callee := .builtin .append, args := #[s, x], argTypes := #[t, t] }) (hty : o.type = ty) (v vx v' : Value) (hs : a.eval s = v) (hx : a.eval x = vx)
    (hrun : (Builtin.append_ #[t, t] ty #[v, vx]).run Tryz.prog w = .ok v' w') (h : wpList Tryz.prog ops Q rest (a.put o.dst v') w') : wpList Tryz.prog ops Q (o :: rest) a w :=
  wpList_plain hgd fun _ hK => wp_app_runG s x t ty ho hty v vx v' hs hx hrun (hK _ _ h)
theorem run_one {w : World} (t ty e : TypeId) (i : TypeInfo) (z : Value) (size bytes : Nat) (ht : Tryz.prog.underlying t = some (.slice e)) (hi : Tryz.prog.info? e = some i) (hz : i.zero = some z) (hsize : i.size = size) (hby : i.bytes = bytes) (hzs : z.cells.size = size)
    (v : Value) (n : Nat) (xs : List Value) (h : GOwn w e size v n xs) (hk : ∀ k, v.ownBlock = some k → k < w.heap.size) (ys : List Value) (hy : ys.length = size) (h1 : ∀ u ∈ ys, u.oneCell' = true) (hn : n < 1000000) (hb : bytes ≤ 1000) :
    ∃ v' w', (Builtin.append_ #[t, t] ty #[v, .slice (some ⟨w.heap.size, 0, none⟩) 1 1]).run Tryz.prog (w.alloc (.cells ys.toArray e)) = .ok v' w' ∧ GOwn w' e size v' (n + 1) (xs ++ ys) ∧ (w.alloc (.cells ys.toArray e)).grownBy w' v.ownBlock ∧ (∀ k, v'.ownBlock = some k → v.ownBlock = some k ∨ (w.heap.size ≤ k ∧ k < w'.heap.size)) := by
  have h0 : GOwn (w.alloc (.cells ys.toArray e)) e size v n xs := GOwn.keep h fun k hq => Below.heap_alloc _ _ _ (hk k hq)
  have hb4 := heap_alloc_new w (.cells ys.toArray e)
  have hsr : GSrc (w.alloc (.cells ys.toArray e)) size (.slice (some ⟨w.heap.size, 0, none⟩) 1 1) 1 ys := by
    refine ⟨by rw [hy]; simp, .inr ⟨_, _, rfl, fun k u hq => ?_⟩⟩
    have ea : (⟨w.heap.size, 0, none⟩ : Addr).add k = ⟨w.heap.size, k, none⟩ := by simp [Addr.add]; omega
    rw [ea]
    simp only [World.cell?, hb4]
    simpa using hq
  obtain ⟨v', w', g1, g2, g3, g4⟩ := run_gapp (P := Tryz.prog) t ty e i z size bytes ht hi hz hsize hby hzs v n xs h0 _ 1 ys hsr h1 (by simp only [maxLen]; omega) (Nat.le_trans (Nat.mul_le_mul (show n + 1 ≤ 1000000 by omega) hb) (by decide))
  refine ⟨v', w', g1, g2, g3, fun k hq => ?_⟩
  rcases g4 k hq with h | h
  · exact .inl h
  · exact .inr ⟨by have := h.1; simp at this; omega, h.2⟩
/-- Rows that grow in blocks from base on; their texts are read in V. -/
structure TG (T : TypeId) (base : Nat) (V W : World) (v : Value) (ys : List It) : Prop where
  o : GOwn W T 9 v ys.length (ys.flatMap c9)
  k : ∀ k, v.ownBlock = some k → base ≤ k ∧ k < W.heap.size
  b : Below base V W
  s : ∀ y ∈ ys, SReads V y.v y.D
theorem TG.nil {T : TypeId} {base : Nat} {V W : World} (h : Below base V W) : TG T base V W (.slice none 0 0) [] :=
  ⟨GOwn.nil _ _ _, fun k e => by simp [Value.ownBlock] at e, h, fun y hy => by cases hy⟩
theorem TG.below {T : TypeId} {base : Nat} {V W W' : World} {v : Value} {ys : List It} (h : TG T base V W v ys) (hb : Below W.heap.size W W') (hs : base ≤ W.heap.size) : TG T base V W' v ys :=
  ⟨GOwn.keep h.o fun k q => hb.block k (h.k k q).2, fun k q => ⟨(h.k k q).1, Nat.lt_of_lt_of_le (h.k k q).2 hb.size⟩, h.b.trans (hb.mono hs), h.s⟩
theorem TG.app {T U : TypeId} (hu : Tryz.prog.underlying U = some (.slice T)) (hinf : (Tryz.prog.info? T).map (fun i => (i.zero, i.size, i.bytes)) = some (some (.agg #[.slice none 0 0, .int .i64 0, .int .i64 0, .int .u64 0, .bool false, .int .i64 0, .int .u64 0, .int .i64 0, .int .i64 0]), 9, 88))
    {base : Nat} {V W : World} {v : Value} {ys : List It} (h : TG T base V W v ys) (hs : base ≤ W.heap.size) (y : It) (hy : SReads V y.v y.D) (hl : ys.length < 1000000) :
    ∃ v' w', (Builtin.append_ #[U, U] U #[v, .slice (some ⟨W.heap.size, 0, none⟩) 1 1]).run Tryz.prog (W.alloc (.cells (c9 y).toArray T)) = .ok v' w' ∧ TG T base V w' v' (ys ++ [y]) ∧ base ≤ w'.heap.size := by
  obtain ⟨i0, hi, hz0, hz1, hz2⟩ := info_parts hinf
  obtain ⟨v', W', h1, h2, h3, h4⟩ := run_one U U T i0 _ 9 88 hu hi hz0 hz1 hz2 rfl v ys.length _ h.o (fun k e => (h.k k e).2) (c9 y) rfl (one9 (by obtain ⟨a, c, hv, _⟩ := hy.form; rw [hv]; rfl)) hl (by decide)
  have hsz := h3.size
  simp only [World.size_alloc] at hsz
  refine ⟨v', W', h1, ⟨?_, fun k q => ?_, (h.b.alloc hs _).grown h3 (by simp; omega) (fun k q => (h.k k q).1), fun z hz => ?_⟩, by omega⟩
  · rw [List.length_append, List.flatMap_append]; simpa using h2
  · rcases h4 k q with z | z
    · have := h.k k z; omega
    · omega
  · rcases List.mem_append.1 hz with hz | hz
    · exact h.s z hz
    · obtain rfl : z = y := by simpa using hz
      exact hy
theorem TG.reads {T : TypeId} {V W : World} {v : Value} {ys : List It} (h : TG T V.heap.size V W v ys) : TReads W v ys := by
  obtain ⟨a, cap, rfl, h1, h2, h3, h4⟩ := GOwn.form h.o
  refine ⟨a, cap, rfl, h1, h2, ?_⟩
  rcases Nat.eq_zero_or_pos ys.length with hz | hz
  · exact .inl (List.length_eq_zero_iff.1 hz)
  · cases a with
    | none => have := h4 rfl; omega
    | some b =>
      have hb := h3 b rfl
      obtain ⟨g, bo, bx⟩ := b
      simp only [Addr.mk.injEq, true_and] at hb
      obtain ⟨rfl, rfl⟩ := hb
      refine .inr ⟨g, 0, rfl, (h.k g rfl).2, fun j hj => ⟨fun i hi => ?_, (h.s _ (List.getElem_mem hj)).below h.b⟩⟩
      have e1 := flat9 ys j i hj hi
      rw [List.getElem?_eq_getElem (show i < (c9 ys[j]).length from hi)] at e1
      have := GOwn.cells h.o (g := g) rfl (9 * j + i) _ e1
      have ea : (⟨g, 0, none⟩ : Addr).add (9 * j + i) = ⟨g, 0 + j * 9 + i, none⟩ := by
        unfold Addr.add
        by_cases hz : 9 * j + i = 0
        · rw [if_pos hz]; exact congrArg (fun x => (⟨g, x, none⟩ : Addr)) (show 0 = 0 + j * 9 + i by omega)
        · rw [if_neg hz]; exact congrArg (fun x => (⟨g, x, none⟩ : Addr)) (show 0 + (9 * j + i) = 0 + j * 9 + i by omega)
      rwa [ea] at this
theorem rowsE_len (R : Rl) (wm : Int) (L : List En) : (rowsE R wm L).length ≤ L.length := by
  unfold rowsE; rw [List.length_map]; exact foldF_len R wm L
theorem scanF_snoc {D : List ByteArray} {f t : Int} {l : List Rw} {k : Nat} (hk : k < l.length) : scanF D f t (l.take (k + 1)) = scanF D f t (l.take k) ++ if (decide (l[k].D.take D.length = D) && decide (f ≤ l[k].f ∧ l[k].f < t)) = true then [l[k]] else [] := by
  unfold scanF
  rw [List.take_add_one, List.getElem?_eq_getElem hk, List.filter_append]
  simp only [Option.toList_some, List.filter_cons, List.filter_nil]
theorem scanF_no {D : List ByteArray} {f t : Int} {l : List Rw} {k : Nat} (hk : k < l.length) {x : Rw} (hx : l[k] = x) (h : (decide (x.D.take D.length = D) && decide (f ≤ x.f ∧ x.f < t)) = false) : scanF D f t (l.take (k + 1)) = scanF D f t (l.take k) := by
  subst hx
  rw [scanF_snoc hk, if_neg (by rw [h]; simp), List.append_nil]
theorem scanF_yes {D : List ByteArray} {f t : Int} {l : List Rw} {k : Nat} (hk : k < l.length) {x : Rw} (hx : l[k] = x) (h : (decide (x.D.take D.length = D) && decide (f ≤ x.f ∧ x.f < t)) = true) : scanF D f t (l.take (k + 1)) = scanF D f t (l.take k) ++ [x] := by
  subst hx
  rw [scanF_snoc hk, if_pos h]
theorem scanF_len (D : List ByteArray) (f t : Int) (l : List Rw) : (scanF D f t l).length ≤ l.length := List.length_filter_le _ _
end Go.Proofs.YtoenijflijfogaaGreat

/- Layer 17: the contract of ask.sorted: a map of rows, in the order of its texts. -/
namespace Go.Proofs.YtoenijflijfogaaGreat
open Go.RowKit Go.Maps Go.Sort

def baT (s : List UInt8) : ByteArray := ⟨s.toArray⟩
theorem baT_map (ss : List (List UInt8)) : (ss.map baT).map Value.string = ss.map encStr := by rw [List.map_map]; rfl
theorem baT_size (s : List UInt8) : (baT s).size = s.length := by show s.toArray.size = _; simp
/-- One key less is left. -/
theorem left_step (left : Lit → Bool) (s : List UInt8) (hl : left (.string s) = true) : ∀ {keys : List (List UInt8)}, keys.Nodup → s ∈ keys → (s :: keys.filter fun z => (left (.string z) && !(Lit.string z).sameKey (.string s))).Perm (keys.filter fun z => left (.string z))
  | [], _, h => by cases h
  | y :: r, hn, hm => by
    obtain ⟨h1, h2⟩ := List.nodup_cons.1 hn
    have hsk : ∀ a : List UInt8, (Lit.string a).sameKey (.string s) = (a == s) := fun _ => rfl
    simp only [hsk]
    rw [List.filter_cons, List.filter_cons]
    by_cases e : y = s
    · subst e
      have hr : r.filter (fun z => (left (.string z) && !(z == y))) = r.filter fun z => left (.string z) := by
        refine List.filter_congr fun z hz => ?_
        have : (z == y) = false := by simpa using fun e2 : z = y => h1 (e2 ▸ hz)
        rw [this]; simp
      rw [if_neg (by simp), if_pos hl, hr]
    · have hm2 : s ∈ r := by rcases List.mem_cons.1 hm with e2 | h; exact absurd e2.symm e; exact h
      have ih := left_step left s hl h2 hm2
      simp only [hsk] at ih
      have e3 : (y == s) = false := by simpa using e
      rw [e3, Bool.not_false, Bool.and_true]
      by_cases e4 : left (.string y) = true
      · rw [if_pos e4, if_pos e4]
        exact (List.Perm.swap y s _).trans (ih.cons y)
      · rw [if_neg e4, if_neg e4]; exact ih
def kysI (P : List It) : List (List UInt8) := P.map fun y => jn y.D
theorem kysI_keys (P : List It) : (vlI P).map (·.1) = kysI P := by unfold vlI kysI; rw [List.map_map]; rfl
theorem vlI_len (P : List It) : (vlI P).length = P.length := List.length_map _
theorem kysI_nodup {P : List It} (h : (P.map itR).Pairwise (fun a b => lj a.D b.D)) : (kysI P).Nodup := by
  unfold kysI List.Nodup
  rw [List.pairwise_map] at h ⊢
  exact h.imp fun {a b} hab e => by
    have hab' : lj a.D b.D := hab
    rw [show a.D = b.D from jn_inj e] at hab'
    exact lj_irr _ hab'
theorem kysI_sort {P : List It} (h : (P.map itR).Pairwise (fun a b => lj a.D b.D)) {ss : List (List UInt8)} (hp : ss.Perm (kysI P)) : ss.mergeSort (fun x y => decide (x ≤ y)) = kysI P := by
  have := mergeSort_of_perm hp
  unfold leB at this
  rw [this]
  refine List.mergeSort_of_pairwise ?_
  unfold kysI
  rw [List.pairwise_map] at h ⊢
  exact h.imp fun {a b} q => by
    have : Go.bytesBefore (jn a.D) (jn b.D) = true := by rw [bb_lj]; exact decide_eq_true q
    simpa using bb_le _ _ this
theorem look_at {P : List It} (h : (P.map itR).Pairwise (fun a b => lj a.D b.D)) {k : Nat} (hk : k < P.length) : vLook (jn P[k].D) (vlI P) = some (v9 P[k]) := by
  have hp : (vlI P).Pairwise (fun p q => p.1 ≠ q.1) := by
    have := kysI_nodup h
    rw [← kysI_keys] at this
    exact List.pairwise_map.1 this
  exact vmem_look (p := kvI P[k]) hp (List.mem_map_of_mem (List.getElem_mem hk))
theorem ranges_at {w w' : World} {k : TypeId} {R : Value → Option (DataW Value × List MemPlace)} {b r n cnt : Nat} {D : DataW Value} {left : Lit → Bool} (h : w.ranges Tryz.prog k R b r n D left cnt) (hb : w'.heap[b]? = w.heap[b]?) (hr' : w'.heap[r]? = w.heap[r]?) : w'.ranges Tryz.prog k R b r n D left cnt := by
  obtain ⟨es, clock, since, seen, c0, hb0, F, hs, hD, hr, rest⟩ := h
  exact ⟨es, clock, since, seen, c0, hb.trans hb0, F, hs, hD, hr'.trans hr, rest⟩
theorem SOwn.keepB {w w' : World} {base : Nat} {v : Value} {l : List ByteArray} (h : SOwn w base v l) (hb : ∀ k, base ≤ k → k < w.heap.size → w'.heap[k]? = w.heap[k]?) : SOwn w' base v l := by
  have hlt := World.ownsRow.lt h.1
  obtain ⟨⟨h1, h2⟩, h3⟩ := h
  refine ⟨⟨h1, ?_⟩, h3⟩
  rcases h2 with h2 | ⟨g, cap, cur, hv, hg, hw, r⟩
  · exact .inl h2
  · exact .inr ⟨g, cap, cur, hv, hg, (hb g hg (hlt g (by rw [hv]; rfl)).2).trans hw, r⟩
theorem zeroRw17 (w : World) : (zeroValue 38).run Tryz.prog w = .ok (.agg #[.slice none 0 0, .int .i64 0, .int .i64 0, .int .u64 0, .bool false, .int .i64 0, .int .u64 0, .int .i64 0, .int .i64 0]) w := by kernel_rfl
set_option maxRecDepth 100000 in
set_option maxHeartbeats 2000000 in
theorem sorted17_any (m : Nat) (P : List It) (w : World) (hM : VMap w m (vlI P)) (hP : (P.map itR).Pairwise (fun a b => lj a.D b.D)) (hs : ∀ y ∈ P, SReads w y.v y.D) (hk : ∀ y ∈ P, (jn y.D).length ≤ 1000) (hl : P.length ≤ 100000) :
    Calls Tryz.prog 38 #[.map (some m)] w fun e w' => ∃ v', e = .returned v' ∧ TReads w' v' P ∧ Below w.heap.size w w' := by
  have hlt := World.ownsMap.lt hM
  have HM : Hid (VMap w m (vlI P)) := hM
  have HP : Hid ((P.map itR).Pairwise (fun a b => lj a.D b.D)) := hP
  have HS : Hid (∀ y ∈ P, SReads w y.v y.D) := hs
  have HK : Hid (∀ y ∈ P, (jn y.D).length ≤ 1000) := hk
  have HKN : Hid ((kysI P).Nodup) := kysI_nodup hP
  have HKL : Hid ((kysI P).length ≤ 100000) := by unfold kysI Hid; rw [List.length_map]; exact hl
  obtain ⟨n, Hn⟩ := hid_ex P.length
  rw [← Hn.out] at hl
  clear hP hs hk
  go_enter Tryz.func38, Tryz.ntmps38
  go_wp2_with (at_range; refine wpList_range_own _ rfl _ 79 rfl 9 38 keyedS Tryz.underlying79 anyE m (vlI P).length (vD (vlI P)) rfl hM ?_; intro w0 hrg0 hg0 hs0)
  go_frame
  have HR0 : Hid (w0.ranges Tryz.prog 9 anyE m w.heap.size (vlI P).length (vD (vlI P)) (Maps.has (vD (vlI P))) (Maps.size (vD (vlI P)))) := hrg0
  have HB0 : Hid (Below w.heap.size w w0) := (Below.refl _ _).grown hg0 (Nat.le_refl _) (fun k hk => by cases hk)
  have HS0 : Hid (w.heap.size < w0.heap.size) := by unfold Hid; omega
  have HF0 : Hid ((kysI P).filter (fun z => Maps.has (vD (vlI P)) (.string z)) = kysI P) := List.filter_eq_self.2 fun z hz => by
    rw [vD_has]
    rw [← kysI_keys] at hz
    obtain ⟨p, hp, rfl⟩ := List.mem_map.1 hz
    have hpn : (vlI P).Pairwise (fun p q => p.1 ≠ q.1) := by
      have := HKN.out
      rw [← kysI_keys] at this
      exact List.pairwise_map.1 this
    rw [vmem_look hpn hp]; rfl
  clear hrg0 hg0 hs0 hM
  go_loopw [3] (fun o wr => ∃ left cnt ss, Hid (wr.ranges Tryz.prog 9 anyE m w.heap.size (vlI P).length (vD (vlI P)) left cnt) ∧ Hid (SOwn wr (w.heap.size + 1) o (ss.map baT)) ∧ Hid ((ss ++ (kysI P).filter fun z => left (.string z)).Perm (kysI P)) ∧ Hid (Below w.heap.size w wr) ∧ Hid (w.heap.size < wr.heap.size)) (fun _ wr => wr.rangeLeft m w.heap.size)
  case atStart => exact ⟨_, _, [], HR0, SOwn.nil _ _, by (show List.Perm _ _; rw [List.nil_append, HF0.out]), HB0, HS0⟩
  case round =>
    obtain ⟨left, cnt, ss, HR, HO, HPM, HB, HSZ⟩ := hrel
    go_wp2_with (at_next; refine wpList_next_v rfl _ rfl m w.heap.size (vlI P).length (vlI P) left cnt rfl HR.out ?_ ?_)
    · intro hl0
      have HPM2 : Hid (ss.Perm (kysI P)) := by
        have h1 := HPM.out
        have h2 : (kysI P).filter (fun z => left (.string z)) = [] := List.filter_eq_nil_iff.2 fun z _ => by rw [hl0]; simp
        rw [h2, List.append_nil] at h1
        exact h1
      have HOW : Hid (wr.ownsRow (w.heap.size + 1) 9 1 u3 ss.length (ss.map encStr)) := by
        have := HO.out.1
        rw [baT_map, List.length_map] at this
        exact this
      have hsl : ss.length = n := by rw [HPM2.out.length_eq, Hn.out]; unfold kysI; rw [List.length_map]
      have HSO : Hid (Calls Tryz.prog 57 #[u3] wr fun e w' => e = .returned (.tuple #[]) ∧ w'.ownsRow (w.heap.size + 1) 9 1 u3 ss.length ((ss.mergeSort fun x y => decide (x ≤ y)).map encStr) ∧ Below (w.heap.size + 1) wr w') := sortS_any u3 ss (w.heap.size + 1) wr HOW.out HSZ.out (by rw [hsl]; omega)
      rw [kysI_sort HP.out HPM2.out, hsl] at HSO
      clear hl0 HR HPM HPM2 HO HOW hsl
      go_wp2_with fail
      refine HSO.out.mono ?_
      clear HSO
      rintro e w1 ⟨rfl, hrow, hb1⟩
      have hb1' : Below w.heap.size wr w1 := hb1.mono (by omega)
      have HB1 : Hid (Below w.heap.size w w1) := HB.out.trans hb1'
      have HRW : Hid (w1.ownsRow (w.heap.size + 1) 9 1 u3 n ((kysI P).map encStr)) := hrow
      obtain ⟨ta, tc, htv, -, -⟩ : ∃ a c, u3 = .slice a n c ∧ True ∧ True := by
        rcases hrow.2 with ⟨h, h0⟩ | ⟨g, cap, cur, h, _⟩
        · exact ⟨none, 0, by rw [h, h0], trivial, trivial⟩
        · exact ⟨_, cap, h, trivial, trivial⟩
      subst htv
      have hsz1 := hb1.size
      have HS1 : Hid (w.heap.size < w1.heap.size) := by have := HSZ.out; unfold Hid; omega
      have HI0 : Hid (TG 38 w1.heap.size w1 w1 (.slice none 0 0) []) := TG.nil (Below.refl _ _)
      clear hrow hb1 hb1' HB hsz1 HSZ
      go_wp2_with fail
      go_loopw [5, 22] (fun o i wr => ∃ (k : Nat), k ≤ n ∧ i = .int .i64 (k : Int) ∧ Hid (TG 38 w1.heap.size w1 wr o (P.take k)) ∧ Hid (w1.heap.size ≤ wr.heap.size)) (fun _ i _ => n - (intOf i).toNat)
      case atStart => exact ⟨0, by omega, rfl, HI0, Nat.le_refl _⟩
      case round =>
        clear HI0
        obtain ⟨k, hk, rfl, HG, HSR⟩ := hrel
        have hm1 : m < w1.heap.size := Nat.lt_trans hlt HS1.out
        by_cases hlt2 : k < n
        · have hkx : k < P.length := by rw [← Hn.out]; exact hlt2
          have HTX : Hid (SReads w1 (.slice ta n tc) ((kysI P).map baT)) := by
            have h1 : SOwn w1 (w.heap.size + 1) (.slice ta n tc) ((kysI P).map baT) := ⟨by
              have := HRW.out
              rw [baT_map, List.length_map, show (kysI P).length = n by rw [Hn.out]; exact List.length_map _]
              exact this, fun s hs => by
                obtain ⟨z, hz, rfl⟩ := List.mem_map.1 hs
                obtain ⟨y, hy, rfl⟩ := List.mem_map.1 hz
                have := HK.out y hy
                rw [baT_size]; unfold maxLen; omega⟩
            exact h1.reads
          obtain ⟨b, off, rfl, hbw, hc0⟩ := HTX.out.at k (by simp [kysI]; exact hkx)
          have hc : wr.cell? ⟨b, off + k, none⟩ = some (.string ⟨(jn P[k].D).toArray⟩) := by
            rw [HG.out.b.cell (p := ⟨b, off + k, none⟩) hbw, hc0]
            simp [kysI, baT]
          have HMr : VMap wr m (vlI P) := HM.out.keep ((HB1.out.trans (HG.out.b.mono HB1.out.size)).block m hlt)
          have hlk := HMr.look Tryz.underlying79 (zeroRw17 wr) (jn P[k].D) (by have := HK.out P[k] (List.getElem_mem hkx); unfold maxLen; omega)
          rw [look_at HP.out hkx] at hlk
          simp only [Option.getD_some] at hlk
          have HSX : Hid (SReads w1 P[k].v P[k].D) := (HS.out P[k] (List.getElem_mem hkx)).below HB1.out
          have HTK : Hid (P.take (k + 1) = P.take k ++ [P[k]]) := List.take_succ_eq_append_getElem hkx
          have hyl : (P.take k).length < 1000000 := by rw [List.length_take]; omega
          obtain ⟨X, HX⟩ := hid_ex P[k]
          rw [← HX.out] at HSX HTK hlk hc
          obtain ⟨s, Hs⟩ := hid_ex (jn X.D)
          rw [← Hs.out] at hlk hc
          obtain ⟨xv, xD, xf, xz, xg⟩ := X
          obtain ⟨va, vc, hv, hxl⟩ := HSX.out.form
          simp only at hv
          subst hv
          obtain ⟨v8, w8, hrun, hg8, hs8⟩ := HG.out.app Tryz.underlying48 infoRw HSR.out ⟨.slice va xD.length vc, xD, xf, xz, xg⟩ HSX.out hyl
          rw [← HTK.out] at hg8
          simp only [c9] at hrun
          simp only [v9, c9] at hlk
          have HG8 : Hid (TG 38 w1.heap.size w1 w8 v8 (P.take (k + 1))) := hg8
          obtain ⟨oa, oc, hov, -⟩ := GOwn.form HG.out.o
          obtain ⟨M, HM9⟩ : ∃ m, Hid ((P.take k).length = m) := ⟨_, rfl⟩
          rw [HM9.out] at hov
          subst hov
          clear hg8 HMr HTX hbw hc0 HTK Hs HX hxl
          go_wp2_with (at_builtin; refine wpList_app_runG rfl _ _ 48 48 rfl rfl _ _ _ rfl rfl hrun ?_)
          go_roundw
          case rel => exact ⟨k + 1, by omega, by go_num, HG8, hs8⟩
          case measure => simp [intOf]; omega
        · obtain rfl : k = n := by omega
          have HT : Hid (TReads wr u5 P) := by
            have := HG.out.reads
            rw [List.take_of_length_le (by rw [← Hn.out]; exact Nat.le_refl _)] at this
            exact this
          have HBE : Hid (Below w.heap.size w wr) := HB1.out.trans (HG.out.b.mono HB1.out.size)
          clear HG
          go_wp2_with fail
          go_ret
          exact ⟨_, rfl, HT.out, HBE.out⟩
    · intro nm v w1 cnt1 hnl hlook hleft hrg1 hlt1 hg1 hs1 hen
      have hmem : nm ∈ kysI P := by rw [← kysI_keys]; exact List.mem_map_of_mem (vlook_mem hlook)
      have HB1 : Hid (Below w.heap.size w w1) := HB.out.grown hg1 HB.out.size (fun k hk => by cases hk; exact Nat.le_refl _)
      have HO1 : SOwn w1 (w.heap.size + 1) u3 (ss.map baT) := HO.out.keepB fun k h1 h2 => hg1.block k h2 (by simp; omega)
      have HPM1 : Hid (((ss ++ [nm]) ++ (kysI P).filter fun z => (left (.string z) && !(Lit.string z).sameKey (.string nm))).Perm (kysI P)) := by
        have h1 := left_step left nm hleft HKN.out hmem
        rw [List.append_assoc]
        exact (h1.append_left ss).trans HPM.out
      have HLT : Hid (cnt1 < cnt) := hlt1
      have HS1 : Hid (w.heap.size < w1.heap.size) := by rw [hs1]; exact HSZ.out
      have hsl : (ss.map baT).length + 1 ≤ 8796093022208 := by
        have h1 := HPM.out.length_eq
        have h2 := HKL.out
        rw [List.length_append] at h1
        rw [List.length_map]; omega
      have hmw1 : m < w1.heap.size := Nat.lt_trans hlt HS1.out
      have hys : (baT nm).size ≤ maxLen := by rw [baT_size]; exact hnl
      obtain ⟨M, HM1⟩ := hid_ex (ss.map baT ++ [baT nm])
      have hMM : M = (ss ++ [nm]).map baT := by rw [HM1.out, List.map_append]; rfl
      have HR1 : Hid (w1.ranges Tryz.prog 9 anyE m w.heap.size (vlI P).length (vD (vlI P)) (fun z => left z && !z.sameKey (.string nm)) cnt1) := hrg1
      have hb1 : w.heap.size + 1 ≤ w1.heap.size := HS1.out
      clear hrg1 hlt1 hg1 hs1 hlook hleft hmem HO HPM HB HSZ
      unfold baT at hys HM1
      go_wp2_with (at_builtin; refine wpList_sapp1 rfl _ _ rfl (w.heap.size + 1) _ _ M HM1.out hys rfl rfl HO1 hsl hb1 ?_; intro v2 w2 HO2 HB2)
      have HO2' : Hid (SOwn w2 (w.heap.size + 1) v2 ((ss ++ [nm]).map baT)) := by rw [← hMM]; exact HO2
      have hb2 : Below w.heap.size w1 w2 := HB2.out.mono (by omega)
      have HB3 : Hid (Below w.heap.size w w2) := HB1.out.trans hb2
      have HS2 : Hid (w.heap.size < w2.heap.size) := Nat.lt_of_lt_of_le HS1.out hb2.size
      have HR2 : Hid (w2.ranges Tryz.prog 9 anyE m w.heap.size (vlI P).length (vD (vlI P)) (fun z => left z && !z.sameKey (.string nm)) cnt1) := ranges_at HR1.out (HB2.out.block m (by omega)) (HB2.out.block _ (by omega))
      clear hb2 HB2 HO2
      go_wp2_with fail
      go_roundw
      case rel => exact ⟨_, _, _, HR2, HO2', HPM1, HB3, HS2⟩
      case measure => rw [HR2.out.left_eq, HR.out.left_eq]; exact HLT.out
end Go.Proofs.YtoenijflijfogaaGreat
