/- SF0 GAp SF1 MF4, joined. -/
import Derived.Test.YtoibfepnecppmaaDoorMK1
import Derived.Test.YtoibfepnecppmaaDoorMK2
import Derived.Maps.OwnSet
import Derived.StringKeys
import Derived.Maps.RangeWalk
import Derived.Maps.Ext
import Derived.Laws.AppendOwn
import Derived.Laws.AppendOwnNone
/- A file system, plainly: names with files' numbers, what is pending, a plan. -/
namespace Go.Proofs.YtoibfepnecppmaaDoor
open Go.RowKit Go.Maps

/-- What was done to a directory: a name went, a name has a file. -/
structure SfA where
  gone : List UInt8
  name : List UInt8
  file : Option Nat
/-- A file system: each file is its bytes, and how many of them are synced. -/
structure SfS where
  room : Int
  dir : List (List UInt8 × Nat)
  old : List (List UInt8 × Nat)
  pend : List SfA
  left : Int
  fault : Int
  fls : List (List UInt8 × Nat)
def sfIns (x : List UInt8 × Nat) : List (List UInt8 × Nat) → List (List UInt8 × Nat)
  | [] => [x]
  | y :: r => if bytesBefore x.1 y.1 then x :: y :: r else y :: sfIns x r
def sfDel (s : List UInt8) (l : List (List UInt8 × Nat)) : List (List UInt8 × Nat) := l.filter fun p => !(p.1 == s)
def sfPut (x : List UInt8 × Nat) (l : List (List UInt8 × Nat)) : List (List UInt8 × Nat) := sfIns x (sfDel x.1 l)
def sfDo (l : List (List UInt8 × Nat)) (a : SfA) : List (List UInt8 × Nat) := match a.file with
  | none => sfDel a.gone l
  | some i => sfPut (a.name, i) (sfDel a.gone l)
def sfLook (s : List UInt8) (l : List (List UInt8 × Nat)) : Option Nat := (l.find? fun p => p.1 == s).map (·.2)
/-- A file. -/
def SfS.fl (s : SfS) (i : Nat) : List UInt8 × Nat := s.fls.getD i ([], 0)

/-! as a map's reading -/
def sfE (bl : Nat → Nat) (p : List UInt8 × Nat) : Lit × DataW Unit := (.string p.1, .lit (.int .i64 (bl p.2 : Int)))
def sfD (bl : Nat → Nat) (l : List (List UInt8 × Nat)) : DataW Unit := .map (l.map (sfE bl))
theorem sfE_ins (bl : Nat → Nat) (x : List UInt8 × Nat) : ∀ l, (sfIns x l).map (sfE bl) = DataW.insert (sfE bl x) (l.map (sfE bl))
  | [] => rfl
  | y :: r => by
    have ih := sfE_ins bl x r
    rw [sfIns, List.map_cons, DataW.insert]
    have e : (sfE bl x).1.before (sfE bl y).1 = bytesBefore x.1 y.1 := rfl
    rw [e]
    split
    · rfl
    · rw [List.map_cons, ih]
theorem sfE_del (bl : Nat → Nat) (s : List UInt8) : ∀ l, (sfDel s l).map (sfE bl) = (l.map (sfE bl)).filter (fun p => !p.1.sameKey (.string s))
  | [] => rfl
  | y :: r => by
    have ih := sfE_del bl s r
    have e : (sfE bl y).1.sameKey (.string s) = (y.1 == s) := rfl
    unfold sfDel at ih ⊢
    rw [List.map_cons, List.filter_cons, List.filter_cons, e]
    split
    · rw [List.map_cons, ih]
    · exact ih
theorem sfD_del (bl : Nat → Nat) (s : List UInt8) (l : List (List UInt8 × Nat)) : (sfD bl l).del (.string s) = sfD bl (sfDel s l) := by
  unfold sfD; rw [sfE_del]; rfl
theorem sfD_put (bl : Nat → Nat) (x : List UInt8 × Nat) (l : List (List UInt8 × Nat)) : (sfD bl l).put (.string x.1) (.lit (.int .i64 (bl x.2 : Int))) = sfD bl (sfPut x l) := by
  unfold sfD sfPut; rw [sfE_ins, sfE_del]; rfl
theorem sfE_find (bl : Nat → Nat) (s : List UInt8) : ∀ l : List (List UInt8 × Nat), (l.map (sfE bl)).find? (fun p => p.1.sameKey (.string s)) = (l.find? fun p => p.1 == s).map (sfE bl)
  | [] => rfl
  | y :: r => by
    have ih := sfE_find bl s r
    have e : (sfE bl y).1.sameKey (.string s) = (y.1 == s) := rfl
    rw [List.map_cons, List.find?_cons, List.find?_cons, e]
    split
    · rfl
    · exact ih
theorem sfD_at (bl : Nat → Nat) (s : List UInt8) (l : List (List UInt8 × Nat)) (z : DataW Unit) : (sfD bl l).atKey (.string s) z = match sfLook s l with | none => z | some i => .lit (.int .i64 (bl i : Int)) := by
  unfold sfD sfLook DataW.atKey
  simp only [sfE_find]
  cases l.find? fun p => p.1 == s <;> rfl
theorem sfD_has (bl : Nat → Nat) (s : List UInt8) (l : List (List UInt8 × Nat)) : Maps.has (sfD bl l) (.string s) = (sfLook s l).isSome := by
  unfold sfD sfLook
  rw [Maps.has_eq]
  induction l with
  | nil => rfl
  | cons y r ih =>
    have e : (sfE bl y).1.sameKey (.string s) = (y.1 == s) := rfl
    rw [List.map_cons, List.any_cons, List.find?_cons, e]
    cases h : y.1 == s with
    | true => rfl
    | false => simpa using ih
theorem sfD_size (bl : Nat → Nat) (l : List (List UInt8 × Nat)) : Maps.size (sfD bl l) = l.length := by unfold sfD; rw [Maps.size_eq, List.length_map]
theorem sfD_congr {bl bl' : Nat → Nat} {l : List (List UInt8 × Nat)} (h : ∀ p ∈ l, bl p.2 = bl' p.2) : sfD bl l = sfD bl' l := by
  unfold sfD
  congr 1
  exact List.map_congr_left fun p hp => by unfold sfE; rw [h p hp]
/-- A map's element: a file's place, or none. -/
def ptrE : Value → Option (DataW Unit × List MemPlace)
  | .pointer (some ⟨b, 0, none⟩) => some (.lit (.int .i64 (b : Int)), [])
  | .pointer none => some (.nil, [])
  | _ => none
def sfPv (bl : Nat → Nat) : Option Nat → Value
  | none => .pointer none
  | some i => .pointer (some ⟨bl i, 0, none⟩)
theorem ptrE_inv {v : Value} {y : DataW Unit × List MemPlace} (h : ptrE v = some y) : (v = .pointer none ∧ y = (.nil, [])) ∨ ∃ b : Nat, v = .pointer (some ⟨b, 0, none⟩) ∧ y = (.lit (.int .i64 (b : Int)), []) := by
  unfold ptrE at h
  split at h
  · cases h; exact .inr ⟨_, rfl, rfl⟩
  · cases h; exact .inl ⟨rfl, rfl⟩
  · cases h
theorem ptrE_pv {bl : Nat → Nat} {o : Option Nat} {v : Value} {ps : List MemPlace} (h : ptrE v = some ((match o with | none => (.nil : DataW Unit) | some i => .lit (.int .i64 (bl i : Int))), ps)) : v = sfPv bl o := by
  rcases ptrE_inv h with ⟨rfl, e⟩ | ⟨b, rfl, e⟩
  · cases o with
    | none => rfl
    | some i => simp at e
  · cases o with
    | none => simp at e
    | some i =>
      simp at e
      obtain ⟨e, _⟩ := e
      have : bl i = b := by omega
      show _ = Value.pointer (some ⟨bl i, 0, none⟩)
      rw [this]
theorem keyedS : Keyed Tryd.prog 9 := string_keyed Tryd.underlying9
theorem keyS (s : List UInt8) (h : s.length ≤ maxLen) : keyOf Tryd.prog 9 (.string ⟨s.toArray⟩) = some (.string s) := by
  have := WideMaps.keyOf_string_mk (P := Tryd.prog) Tryd.underlying9 (s := ⟨s.toArray⟩) (by simpa [ByteArray.size] using h)
  simpa using this
theorem zeroPtr (w : World) : (zeroValue 86).run Tryd.prog w = .ok (.pointer none) w := by kernel_rfl
/-- A directory in memory. -/
def SfMap (w : World) (m : Nat) (bl : Nat → Nat) (l : List (List UInt8 × Nat)) : Prop := w.ownsMap Tryd.prog 9 ptrE m l.length (sfD bl l)
theorem SfMap.of {w : World} {m n : Nat} {bl : Nat → Nat} {l : List (List UInt8 × Nat)} {D : DataW Unit} (h : w.ownsMap Tryd.prog 9 ptrE m n D) (hD : D = sfD bl l) : SfMap w m bl l := by
  subst hD
  obtain ⟨es, clock, h1, h2, h3, h4⟩ := h
  refine ⟨es, clock, h1, h2, ?_, h4⟩
  have := sfD_size bl l
  rw [h4, Maps.size_eq, length_read] at this
  omega
theorem SfMap.keep {w w' : World} {m : Nat} {bl : Nat → Nat} {l : List (List UInt8 × Nat)} (h : SfMap w m bl l) (hk : w'.heap[m]? = w.heap[m]?) : SfMap w' m bl l := by
  obtain ⟨es, clock, h1, r⟩ := h
  exact ⟨es, clock, hk.trans h1, r⟩
theorem SfMap.isMap {w : World} {m : Nat} {bl : Nat → Nat} {l : List (List UInt8 × Nat)} (h : SfMap w m bl l) : ∃ es clock, w.heap[m]? = some (.map es clock) := by
  obtain ⟨es, clock, h1, _⟩ := h
  exact ⟨es, clock, h1⟩
theorem SfMap.congr {w : World} {m : Nat} {bl bl' : Nat → Nat} {l : List (List UInt8 × Nat)} (h : SfMap w m bl l) (hb : ∀ p ∈ l, bl p.2 = bl' p.2) : SfMap w m bl' l := by
  unfold SfMap at h ⊢; rw [← sfD_congr hb]; exact h
theorem SfMap.look {w : World} {m : Nat} {bl : Nat → Nat} {l : List (List UInt8 × Nat)} (h : SfMap w m bl l) (s : List UInt8) (hs : s.length ≤ maxLen) :
    (Instr.lookup 70 (.map (some m)) (.string ⟨s.toArray⟩) false).run Tryd.prog w = .ok (sfPv bl (sfLook s l)) w := by
  obtain ⟨v, ps, hr, hv⟩ := World.ownsMap.lookup h keyedS Tryd.underlying70 (zeroPtr w) (zd := .nil) (zp := []) rfl (keyS s hs)
  rw [sfD_at] at hv
  rw [hr, ptrE_pv hv]
theorem SfMap.put {w : World} {m : Nat} {bl : Nat → Nat} {l : List (List UInt8 × Nat)} (h : SfMap w m bl l) (s : List UInt8) (hs : s.length ≤ maxLen) (i : Nat) (hn : l.length < maxLen) :
    ∃ w', (Instr.mapUpdate 70 (.map (some m)) (.string ⟨s.toArray⟩) (.pointer (some ⟨bl i, 0, none⟩))).run Tryd.prog w = .ok () w' ∧ SfMap w' m bl (sfPut (s, i) l) ∧ w.mapTurned w' m := by
  obtain ⟨w', h1, h2, h3⟩ := World.ownsMap.store h keyedS Tryd.underlying70 hn (keyS s hs) (val := .pointer (some ⟨bl i, 0, none⟩)) (d := .lit (.int .i64 (bl i : Int))) (ps := []) rfl
  exact ⟨w', h1, .of h2 (sfD_put bl (s, i) l), h3⟩
theorem SfMap.del {w : World} {m : Nat} {bl : Nat → Nat} {l : List (List UInt8 × Nat)} (h : SfMap w m bl l) (s : List UInt8) (hs : s.length ≤ maxLen) (ty : TypeId) :
    ∃ w', (Builtin.delete_ #[70, 9] ty #[.map (some m), .string ⟨s.toArray⟩]).run Tryd.prog w = .ok (.tuple #[]) w' ∧ SfMap w' m bl (sfDel s l) ∧ w.mapTurned w' m := by
  obtain ⟨w', h1, h2, h3⟩ := World.ownsMap.drop h keyedS Tryd.underlying70 (keyS s hs) ty
  exact ⟨w', h1, .of h2 (sfD_del bl s l), h3⟩
theorem SfMap.len {w : World} {m : Nat} {bl : Nat → Nat} {l : List (List UInt8 × Nat)} (h : SfMap w m bl l) (ty : TypeId) : (Builtin.len_ #[70] ty #[.map (some m)]).run Tryd.prog w = .ok (.int .i64 (l.length : Int)) w := by
  have := World.ownsMap.len h Tryd.underlying70 ty
  rw [sfD_size] at this
  exact this
theorem SfMap.clear {w : World} {m : Nat} {bl : Nat → Nat} {l : List (List UInt8 × Nat)} (h : SfMap w m bl l) (ty : TypeId) :
    ∃ w', (Builtin.clear_ #[70] ty #[.map (some m)]).run Tryd.prog w = .ok (.tuple #[]) w' ∧ SfMap w' m bl [] ∧ w.mapTurned w' m := by
  obtain ⟨es, clock, hb, F, hs, hD⟩ := h
  refine ⟨ChangeMaps.setBlock w m (.map #[] clock), ?_, ⟨#[], clock, ChangeMaps.heap_setBlock_same hb _, ⟨by simp, MapKept.stamped_empty clock, by simp⟩, Nat.le_refl _, rfl⟩, ⟨es, clock, _, _, hb, rfl⟩⟩
  simp [Builtin.clear_, run_underlying Tryd.underlying70, MapKept.run_getObj_map hb, MapKept.run_setObj_map _ hb, Result.andThen, ChangeMaps.setBlock]
end Go.Proofs.YtoibfepnecppmaaDoor

/- Append to a row whose capacity may end ahead of its block, with where the new row lies; what a call touches, as a set of blocks. -/
namespace Go.Proofs.YtoibfepnecppmaaDoor
open Go.RowKit

/-- Nothing that was there has turned but blocks of O. -/
structure Onl (O : Nat → Prop) (w w' : World) : Prop where
  os : w'.os = w.os
  tape : w'.tape = w.tape
  output : w'.output = w.output
  size : w.heap.size ≤ w'.heap.size
  block : ∀ k, k < w.heap.size → ¬ O k → w'.heap[k]? = w.heap[k]?
/-- O, and what is new. -/
def Grw (O : Nat → Prop) (w w' : World) (k : Nat) : Prop := O k ∨ (w.heap.size ≤ k ∧ k < w'.heap.size)
theorem Onl.refl (O : Nat → Prop) (w : World) : Onl O w w := ⟨rfl, rfl, rfl, Nat.le_refl _, fun _ _ _ => rfl⟩
theorem Onl.trans {O : Nat → Prop} {w w1 w2 : World} (h : Onl O w w1) (h' : Onl (Grw O w w1) w1 w2) : Onl O w w2 :=
  ⟨h'.os.trans h.os, h'.tape.trans h.tape, h'.output.trans h.output, Nat.le_trans h.size h'.size, fun k hk ho => (h'.block k (Nat.lt_of_lt_of_le hk h.size) (fun q => q.elim ho (fun r => by omega))).trans (h.block k hk ho)⟩
theorem Onl.mono {O O' : Nat → Prop} {w w' : World} (h : Onl O w w') (hO : ∀ k, O k → O' k) : Onl O' w w' := ⟨h.os, h.tape, h.output, h.size, fun k hk ho => h.block k hk (fun q => ho (hO k q))⟩
theorem Onl.then {O : Nat → Prop} {w w1 w2 : World} (h : Onl O w w1) (h' : Onl O w1 w2) : Onl O w w2 := h.trans (h'.mono fun _ q => .inl q)
theorem Onl.below {O : Nat → Prop} {w w' : World} {base : Nat} (h : Onl O w w') (hb : base ≤ w.heap.size) (hO : ∀ k, O k → base ≤ k) : Below base w w' := ⟨h.os, h.tape, h.output, h.size, fun k hk => h.block k (by omega) (fun q => by have := hO k q; omega)⟩
theorem onl_of_below {O : Nat → Prop} {w w' : World} (h : Below w.heap.size w w') : Onl O w w' := ⟨h.os, h.tape, h.output, h.size, fun k hk _ => h.block k hk⟩
theorem Grw.lt {O : Nat → Prop} {w w' : World} (h : ∀ k, O k → k < w.heap.size) (hs : w.heap.size ≤ w'.heap.size) : ∀ k, Grw O w w' k → k < w'.heap.size := fun k hk => hk.elim (fun q => Nat.lt_of_lt_of_le (h k q) hs) (fun q => q.2)
theorem Grw.trans {O : Nat → Prop} {w w1 w2 : World} (h1 : w.heap.size ≤ w1.heap.size) (h2 : w1.heap.size ≤ w2.heap.size) : ∀ k, Grw (Grw O w w1) w1 w2 k → Grw O w w2 k := fun k hk => by
  rcases hk with (q | q) | q
  · exact .inl q
  · exact .inr ⟨q.1, by omega⟩
  · exact .inr ⟨by omega, q.2⟩
theorem Onl.set {O : Nat → Prop} {w : World} {a : Addr} (h : O a.block) (v : Value) : Onl O w (w.setCell a v) := by
  have hb := (Below.refl 0 w).setCell (p := a) (Nat.zero_le _) v
  exact ⟨hb.os, hb.tape, hb.output, hb.size, fun k _ ho => Below.heap_setCell _ _ _ _ (fun e => ho (e ▸ h))⟩
theorem Onl.alloc {O : Nat → Prop} {w : World} (o : Obj) : Onl O w (w.alloc o) := onl_of_below ((Below.refl _ _).alloc (Nat.le_refl _) _)
theorem Onl.grown {O : Nat → Prop} {w w' : World} {row : Option Nat} (h : w.grownBy w' row) (hr : ∀ k, row = some k → O k) : Onl O w w' := ⟨h.os, h.tape, h.output, h.size, fun k hk ho => h.block k hk (fun e => ho (hr k e.symm))⟩
/-- A row of one's own, in a block that may go on behind its capacity. -/
def GOwn (w : World) (e : TypeId) (size : Nat) (v : Value) (n : Nat) (xs : List Value) : Prop :=
  xs.length = n * size ∧ ((v = .slice none 0 0 ∧ n = 0) ∨ ∃ g cap cur, v = .slice (some ⟨g, 0, none⟩) n cap ∧ w.heap[g]? = some (.cells cur e (0, 0)) ∧ n ≤ cap ∧ cap ≤ maxLen ∧ cap * size ≤ cur.size ∧ cur.toList.take (n * size) = xs)
theorem GOwn.nil (w : World) (e : TypeId) (size : Nat) : GOwn w e size (.slice none 0 0) 0 [] := ⟨by simp, .inl ⟨rfl, rfl⟩⟩
theorem GOwn.keep {w w' : World} {e : TypeId} {size : Nat} {v : Value} {n : Nat} {xs : List Value} (h : GOwn w e size v n xs) (hk : ∀ k, v.ownBlock = some k → w'.heap[k]? = w.heap[k]?) : GOwn w' e size v n xs := by
  refine ⟨h.1, ?_⟩
  rcases h.2 with h2 | ⟨g, cap, cur, rfl, h3, r⟩
  · exact .inl h2
  · exact .inr ⟨g, cap, cur, rfl, (hk g rfl).trans h3, r⟩
theorem GOwn.block {w : World} {e : TypeId} {size : Nat} {v : Value} {n : Nat} {xs : List Value} (h : GOwn w e size v n xs) {k : Nat} (hk : v.ownBlock = some k) : ∃ cur, w.heap[k]? = some (.cells cur e (0, 0)) := by
  rcases h.2 with ⟨rfl, _⟩ | ⟨g, cap, cur, rfl, h3, r⟩
  · simp [Value.ownBlock] at hk
  · obtain rfl : g = k := by simpa [Value.ownBlock] using hk
    exact ⟨cur, h3⟩
theorem GOwn.form {w : World} {e : TypeId} {size : Nat} {v : Value} {n : Nat} {xs : List Value} (h : GOwn w e size v n xs) : ∃ a cap, v = .slice a n cap ∧ n ≤ cap ∧ cap ≤ maxLen ∧ (∀ b, a = some b → b = ⟨b.block, 0, none⟩) ∧ (a = none → n = 0 ∧ cap = 0) := by
  rcases h.2 with ⟨rfl, rfl⟩ | ⟨g, cap, cur, rfl, h3, h4, h5, _⟩
  · exact ⟨none, 0, rfl, Nat.le_refl _, Nat.zero_le _, (fun b hb => by cases hb), (fun _ => ⟨rfl, rfl⟩)⟩
  · exact ⟨_, cap, rfl, h4, h5, fun b hb => by cases hb; rfl, fun hb => by cases hb⟩
theorem GOwn.cells {w : World} {e : TypeId} {size : Nat} {v : Value} {n : Nat} {xs : List Value} (h : GOwn w e size v n xs) {g : Nat} (hg : v.ownBlock = some g) : ∀ j u, xs[j]? = some u → w.cell? ((⟨g, 0, none⟩ : Addr).add j) = some u := by
  intro j u hj
  rcases h.2 with ⟨rfl, _⟩ | ⟨g', cap, cur, rfl, h3, h4, h5, h6, h7⟩
  · simp [Value.ownBlock] at hg
  · obtain rfl : g' = g := by simpa [Value.ownBlock] using hg
    have ea : (⟨g', 0, none⟩ : Addr).add j = ⟨g', j, none⟩ := by simp [Addr.add]; omega
    rw [ea]
    rw [← h7, List.getElem?_take] at hj
    split at hj
    · simp only [World.cell?, h3]
      rw [Array.getElem?_toList] at hj
      simpa using hj
    · cases hj
/-- Bytes: what the slice reads. -/
theorem gown_reads {w : World} {v : Value} {l : List UInt8} (h : GOwn w 5 1 v l.length (l.map bc)) : Reads w v l := by
  have hc := @GOwn.cells _ _ _ _ _ _ h
  rcases h.2 with ⟨rfl, h0⟩ | ⟨g, cap, cur, rfl, h3, h4, h5, h6, h7⟩
  · exact .inl ⟨List.length_eq_zero_iff.1 h0, none, 0, rfl, fun _ => rfl⟩
  · rcases Nat.eq_zero_or_pos l.length with h0 | h0
    · exact .inl ⟨List.length_eq_zero_iff.1 h0, _, cap, by rw [h0], fun q => by cases q⟩
    · refine .inr ⟨g, 0, cap, rfl, h0, h4, h5, (Array.getElem?_eq_some_iff.1 h3).1, fun j hj => ?_⟩
      have := hc (g := g) rfl j (bc l[j]) (by simp [hj])
      have ea : (⟨g, 0, none⟩ : Addr).add j = ⟨g, 0 + j, none⟩ := by simp [Addr.add]; omega
      rw [ea] at this
      exact this
/-- Where what is appended stands. -/
def GSrc (w : World) (size : Nat) (vx : Value) (m : Nat) (news : List Value) : Prop :=
  news.length = m * size ∧ ((vx = .slice none 0 0 ∧ m = 0) ∨ ∃ a c, vx = .slice (some a) m c ∧ ∀ j u, news[j]? = some u → w.cell? (a.add j) = some u)
theorem GOwn.src {w : World} {e : TypeId} {size : Nat} {v : Value} {n : Nat} {xs : List Value} (h : GOwn w e size v n xs) : GSrc w size v n xs := by
  have hc := @GOwn.cells _ _ _ _ _ _ h
  refine ⟨h.1, ?_⟩
  rcases h.2 with h2 | ⟨g, cap, cur, rfl, r⟩
  · exact .inl h2
  · exact .inr ⟨_, cap, rfl, hc rfl⟩
theorem reads_src {w : World} {v : Value} {l : List UInt8} (h : Reads w v l) : GSrc w 1 v l.length (l.map bc) := by
  refine ⟨by simp, ?_⟩
  rcases h with ⟨rfl, a, cap, rfl, hn⟩ | ⟨b, off, cap, rfl, h2, h3, h4, h5, h6⟩
  · cases a with
    | none => exact .inl ⟨by rw [hn rfl], rfl⟩
    | some a => exact .inr ⟨a, cap, rfl, fun j u hj => by simp at hj⟩
  · exact .inr ⟨_, cap, rfl, newsR h6⟩
theorem run_gapp {P : Program} {w : World} (t ty e : TypeId) (i : TypeInfo) (z : Value) (size bytes : Nat) (ht : P.underlying t = some (.slice e)) (hi : P.info? e = some i) (hz : i.zero = some z)
    (hsize : i.size = size) (hby : i.bytes = bytes) (hzs : z.cells.size = size)
    (v : Value) (n : Nat) (xs : List Value) (hown : GOwn w e size v n xs) (vx : Value) (m : Nat) (news : List Value) (hx : GSrc w size vx m news) (h1 : ∀ u ∈ news, u.oneCell' = true)
    (h63 : n + m ≤ maxLen) (hbytes : (n + m) * bytes ≤ 140737488355328) :
    ∃ v' w', (Builtin.append_ #[t, t] ty #[v, vx]).run P w = .ok v' w' ∧ GOwn w' e size v' (n + m) (xs ++ news) ∧ w.grownBy w' v.ownBlock ∧ (∀ k, v'.ownBlock = some k → v.ownBlock = some k ∨ (w.heap.size ≤ k ∧ k < w'.heap.size)) := by
  subst hsize
  subst hby
  have hsmall : n + m ≤ 9223372036854775807 := by simp only [maxLen] at h63; omega
  obtain ⟨hl, hx⟩ := hx
  have hlen : (xs ++ news).length = (n + m) * i.size := by rw [List.length_append, hown.1, hl, Nat.add_mul]
  have grown : ∀ (old : Nat), old < n + m → ∀ (row : Option Nat),
      GOwn (w.drew.alloc (.cells (xs.toArray ++ news.toArray ++ Builtin.zeroCells z.cells (grownCap w (n + m) old e - (n + m))) e)) e i.size
        (.slice (some ⟨w.heap.size, 0, none⟩) (n + m) (grownCap w (n + m) old e)) (n + m) (xs ++ news) ∧
      w.grownBy (w.drew.alloc (.cells (xs.toArray ++ news.toArray ++ Builtin.zeroCells z.cells (grownCap w (n + m) old e - (n + m))) e)) row := by
    intro old ho row
    have hge := grownCap_ge w (n + m) old e
    have hcm : grownCap w (n + m) old e ≤ maxLen := grownCap_le_maxLen w (n + m) old e h63
    refine ⟨⟨hlen, .inr ⟨w.heap.size, _, _, rfl, heap_alloc_new w.drew _, hge, hcm, ?_, ?_⟩⟩, ⟨rfl, rfl, rfl, by simp, fun k hk _ => Below.heap_alloc w.drew _ k hk⟩⟩
    · simp only [Array.size_append, List.size_toArray, size_zeroCells, hzs, hown.1, hl, ← Nat.add_mul]
      exact Nat.mul_le_mul_right _ (by omega)
    · simp only [Array.toList_append, List.append_assoc]
      rw [← List.append_assoc, ← hlen]
      exact List.take_left
  rcases hx with ⟨rfl, rfl⟩ | ⟨a, c, rfl, hnews⟩
  · have hn : news = [] := List.eq_nil_of_length_eq_zero (by simpa using hl)
    subst hn
    rw [Nat.add_zero, List.append_nil]
    refine ⟨v, w, ?_, hown, ⟨rfl, rfl, rfl, Nat.le_refl _, fun _ _ _ => rfl⟩, fun k hk => .inl hk⟩
    rcases hown.2 with ⟨rfl, rfl⟩ | ⟨g, cap, cur, rfl, hg, hnc, hcm, hcs, htake⟩
    · simp [Builtin.append_, run_underlying ht, sizeOf, typeInfo, hi, Builtin.lenOf, Builtin.firstCells]
    · have hst := run_storeCells_at P g (n * i.size) e [] 0 cur w hg (by have := Nat.mul_le_mul_right i.size hnc; simp; omega) (by simp)
      simp only [Nat.add_zero] at hst
      simp [Builtin.append_, run_underlying ht, sizeOf, typeInfo, hi, Builtin.lenOf, hnc, Builtin.firstCells, storeCells]
  · rcases hown.2 with ⟨rfl, rfl⟩ | ⟨g, cap, cur, rfl, hg, hnc, hcm, hcs, htake⟩
    · have hxn : xs = [] := List.eq_nil_of_length_eq_zero (by simpa using hown.1)
      subst hxn
      by_cases hm : m = 0
      · subst hm
        have hn : news = [] := List.eq_nil_of_length_eq_zero (by simpa using hl)
        subst hn
        refine ⟨.slice none 0 0, w, ?_, hown, ⟨rfl, rfl, rfl, Nat.le_refl _, fun _ _ _ => rfl⟩, fun k hk => by simp [Value.ownBlock] at hk⟩
        simp [Builtin.append_, run_underlying ht, sizeOf, typeInfo, hi, Builtin.lenOf, Builtin.firstCells, loadCells, loadCellsFrom]
      · have hr := run_append_nil (P := P) w t ty e i z ht hi hz a m c news hl hnews (by omega) (by omega) (by have hb := hbytes; simp only [Nat.zero_add] at hb; omega)
        have hgr := grown 0 (by omega) (Value.ownBlock (.slice none 0 0))
        simp only [Nat.zero_add, List.nil_append, Array.empty_append] at hgr ⊢
        exact ⟨_, _, hr, hgr.1, hgr.2, fun k hk => .inr (by simp [Value.ownBlock] at hk; simp; omega)⟩
    · by_cases hroom : n + m ≤ cap
      · have hfit : n * i.size + news.length ≤ cur.size := by rw [hl, ← Nat.add_mul]; exact Nat.le_trans (Nat.mul_le_mul_right _ hroom) hcs
        have hr := run_append_room (P := P) w t ty e i ht hi g n cap cur hg a m c news hl hnews h1 hroom hfit
        refine ⟨_, _, hr, ⟨hlen, .inr ⟨g, cap, _, rfl, setRow_heap w g cur _ e _ hg, hroom, hcm, ?_, ?_⟩⟩, ⟨rfl, rfl, rfl, by simp, fun k _ hk => setRow_other w g k _ (fun e => hk (by simp [Value.ownBlock, e]))⟩, fun k hk => .inl hk⟩
        · simp only [List.size_toArray, List.length_append, List.length_take, List.length_drop, Array.length_toList]
          omega
        · rw [htake, ← hlen]
          exact List.take_left
      · have holds : ∀ j u, xs[j]? = some u → w.cell? ((⟨g, 0, none⟩ : Addr).add j) = some u := hown.cells (g := g) rfl
        have hr := run_append_grow (P := P) w t ty e i z ht hi hz ⟨g, 0, none⟩ n cap xs hown.1 holds a m c news hl hnews (by omega) (by omega) (growslice_fits (by omega) hbytes)
        have hgr := grown cap (by omega) (Value.ownBlock (.slice (some ⟨g, 0, none⟩) n cap))
        exact ⟨_, _, hr, hgr.1, hgr.2, fun k hk => .inr (by simp [Value.ownBlock] at hk; simp; omega)⟩
/-- Bytes. -/
def BOwn (w : World) (v : Value) (l : List UInt8) : Prop := GOwn w 5 1 v l.length (l.map bc)
theorem BOwn.reads {w : World} {v : Value} {l : List UInt8} (h : BOwn w v l) : Reads w v l := gown_reads h
theorem run_bapp {w : World} (ty : TypeId) (v vx : Value) (L l : List UInt8) (h : BOwn w v L) (hr : Reads w vx l) (hlen : L.length + l.length ≤ 140737488355328) :
    ∃ v' w', (Builtin.append_ #[26, 26] ty #[v, vx]).run Tryd.prog w = .ok v' w' ∧ BOwn w' v' (L ++ l) ∧ w.grownBy w' v.ownBlock ∧ (∀ k, v'.ownBlock = some k → v.ownBlock = some k ∨ (w.heap.size ≤ k ∧ k < w'.heap.size)) := by
  obtain ⟨i0, hi, hz0, hz1, hz2⟩ := info_parts info5
  obtain ⟨v', w', h1, h2, h3, h4⟩ := run_gapp (P := Tryd.prog) 26 ty 5 i0 (.int .u8 0) 1 1 Tryd.underlying26 hi hz0 hz1 hz2 rfl v L.length (L.map bc) h vx l.length (l.map bc) (reads_src hr) one_bc (by simp [maxLen]; omega) (by omega)
  exact ⟨v', w', h1, by unfold BOwn; rw [List.length_append, List.map_append]; exact h2, h3, h4⟩
theorem BOwn.cut {w : World} {g n cap : Nat} {l : List UInt8} (h : BOwn w (.slice (some ⟨g, 0, none⟩) n cap) l) {c : Nat} (hc : c ≤ l.length) : BOwn w (.slice (some ⟨g, 0, none⟩) c c) (l.take c) := by
  rcases h.2 with ⟨h2, _⟩ | ⟨g', cap', cur, h2, h3, h4, h5, h6, h7⟩
  · cases h2
  · have hl : (l.take c).length = c := by simp; omega
    simp at h2
    obtain ⟨rfl, rfl, rfl⟩ := h2
    unfold BOwn
    rw [hl]
    refine ⟨by simp; omega, .inr ⟨g, c, cur, rfl, h3, Nat.le_refl _, by omega, by omega, ?_⟩⟩
    rw [Nat.mul_one] at h7 ⊢
    rw [List.map_take, ← h7, List.take_take]
    congr 1; omega
end Go.Proofs.YtoibfepnecppmaaDoor

/- A file system in memory. -/
namespace Go.Proofs.YtoibfepnecppmaaDoor
open Go.RowKit Go.Maps

/-- Files: each in a block of its own, its bytes in another one. -/
structure SfFl (w : World) (O : Nat → Prop) (bl : Nat → Nat) (vs : Nat → Value) (fls : List (List UInt8 × Nat)) : Prop where
  ob : ∀ i, i < fls.length → O (bl i)
  nd : ∀ i j, i < fls.length → j < fls.length → bl i = bl j → i = j
  hf : ∀ i f, fls[i]? = some f → w.heap[bl i]? = some (.cells #[vs i, .int .i64 (f.2 : Int)] 90)
  hb : ∀ i f, fls[i]? = some f → BOwn w (vs i) f.1
  ov : ∀ i, i < fls.length → ∀ k, (vs i).ownBlock = some k → O k
  nv : ∀ i j, i < fls.length → j < fls.length → ∀ k, (vs i).ownBlock = some k → (vs j).ownBlock = some k → i = j
/-- An act's cells. -/
def sfAv (bl : Nat → Nat) (a : SfA) : List Value := [.string ⟨a.gone.toArray⟩, .string ⟨a.name.toArray⟩, sfPv bl a.file]
structure FsAt (w : World) (O : Nat → Prop) (g m1 m2 : Nat) (pv : Value) (bl : Nat → Nat) (vs : Nat → Value) (s : SfS) : Prop where
  lt : ∀ k, O k → k < w.heap.size
  og : O g
  o1 : O m1
  o2 : O m2
  ne : m1 ≠ m2
  hg : w.heap[g]? = some (.cells #[.int .i64 s.room, .map (some m1), .map (some m2), pv, .int .i64 s.left, .int .i64 s.fault] 73)
  h1 : SfMap w m1 bl s.dir
  h2 : SfMap w m2 bl s.old
  hp : GOwn w 163 3 pv s.pend.length (s.pend.flatMap (sfAv bl))
  op : ∀ k, pv.ownBlock = some k → O k
  fl : SfFl w O bl vs s.fls
theorem ty_ne {w : World} {a b : Nat} {x y : Array Value} {T U : TypeId} {f f' : Nat × Nat} (ha : w.heap[a]? = some (.cells x T f)) (hb : w.heap[b]? = some (.cells y U f')) (h : T ≠ U) : a ≠ b := by
  intro e; subst e; rw [ha] at hb; simp at hb; exact h hb.2.1
theorem map_ne {w : World} {a b : Nat} {x : Array Value} {T : TypeId} {f : Nat × Nat} {es : Array MapEntry} {c : Nat} (ha : w.heap[a]? = some (.cells x T f)) (hb : w.heap[b]? = some (.map es c)) : a ≠ b := by
  intro e; subst e; rw [ha] at hb; cases hb
theorem SfFl.keep {w w' : World} {O O' : Nat → Prop} {bl : Nat → Nat} {vs : Nat → Value} {fls : List (List UInt8 × Nat)} (h : SfFl w O bl vs fls) (hO : ∀ k, O k → O' k)
    (hk : ∀ k (cur : Array Value) (T : TypeId), O k → w.heap[k]? = some (.cells cur T (0, 0)) → T = 90 ∨ T = 5 → w'.heap[k]? = w.heap[k]?) : SfFl w' O' bl vs fls := by
  refine ⟨fun i hi => hO _ (h.ob i hi), h.nd, fun i f hf => ?_, fun i f hf => ?_, fun i hi k hk' => hO _ (h.ov i hi k hk'), h.nv⟩
  · have hi := (List.getElem?_eq_some_iff.1 hf).1
    exact (hk _ _ _ (h.ob i hi) (h.hf i f hf) (.inl rfl)).trans (h.hf i f hf)
  · have hi := (List.getElem?_eq_some_iff.1 hf).1
    refine (h.hb i f hf).keep fun k hk' => ?_
    obtain ⟨cur, hc⟩ := (h.hb i f hf).block hk'
    exact hk k cur _ (h.ov i hi k hk') hc (.inr rfl)
/-- All its blocks stand. -/
theorem FsAt.keep {w w' : World} {O : Nat → Prop} {g m1 m2 : Nat} {pv : Value} {bl : Nat → Nat} {vs : Nat → Value} {s : SfS} (h : FsAt w O g m1 m2 pv bl vs s) (hk : ∀ k, O k → w'.heap[k]? = w.heap[k]?) (hs : w.heap.size ≤ w'.heap.size) : FsAt w' O g m1 m2 pv bl vs s :=
  ⟨fun k hk' => Nat.lt_of_lt_of_le (h.lt k hk') hs, h.og, h.o1, h.o2, h.ne, (hk _ h.og).trans h.hg, h.h1.keep (hk _ h.o1), h.h2.keep (hk _ h.o2), h.hp.keep (fun k hk' => hk k (h.op k hk')), h.op, h.fl.keep (fun _ q => q) (fun k _ _ ho _ _ => hk k ho)⟩
theorem FsAt.wider {w : World} {O O' : Nat → Prop} {g m1 m2 : Nat} {pv : Value} {bl : Nat → Nat} {vs : Nat → Value} {s : SfS} (h : FsAt w O g m1 m2 pv bl vs s) (hO : ∀ k, O k → O' k) (hl : ∀ k, O' k → k < w.heap.size) : FsAt w O' g m1 m2 pv bl vs s :=
  ⟨hl, hO _ h.og, hO _ h.o1, hO _ h.o2, h.ne, h.hg, h.h1, h.h2, h.hp, fun k hk => hO k (h.op k hk), h.fl.keep hO (fun _ _ _ _ _ _ => rfl)⟩
theorem FsAt.pvT {w : World} {O : Nat → Prop} {g m1 m2 : Nat} {pv : Value} {bl : Nat → Nat} {vs : Nat → Value} {s : SfS} (h : FsAt w O g m1 m2 pv bl vs s) {k : Nat} (hk : pv.ownBlock = some k) : ∃ cur, w.heap[k]? = some (.cells cur 163 (0, 0)) := h.hp.block hk
/-- The block of the struct is written. -/
theorem FsAt.setG {w w' : World} {O O' : Nat → Prop} {g m1 m2 : Nat} {pv : Value} {bl : Nat → Nat} {vs : Nat → Value} {s : SfS} (h : FsAt w O g m1 m2 pv bl vs s) (hO : ∀ k, O k → O' k) (hl : ∀ k, O' k → k < w'.heap.size)
    (hk : ∀ k, O k → k ≠ g → some k ≠ pv.ownBlock → w'.heap[k]? = w.heap[k]?) {pv' : Value} {P : List SfA} {L F : Int}
    (hg : w'.heap[g]? = some (.cells #[.int .i64 s.room, .map (some m1), .map (some m2), pv', .int .i64 L, .int .i64 F] 73))
    (hp : GOwn w' 163 3 pv' P.length (P.flatMap (sfAv bl))) (op : ∀ k, pv'.ownBlock = some k → O' k) : FsAt w' O' g m1 m2 pv' bl vs { s with pend := P, left := L, fault := F } := by
  have hpn : ∀ {k : Nat} {cur : Array Value} {T : TypeId} {fr : Nat × Nat}, w.heap[k]? = some (.cells cur T fr) → T ≠ 163 → some k ≠ pv.ownBlock := by
    intro k cur T fr hc hT e
    obtain ⟨c, hc'⟩ := h.pvT e.symm
    rw [hc] at hc'
    simp at hc'
    exact hT hc'.2.1
  have hmn : ∀ {k : Nat} {es : Array MapEntry} {c : Nat}, w.heap[k]? = some (.map es c) → some k ≠ pv.ownBlock := by
    intro k es c hc e
    obtain ⟨c', hc'⟩ := h.pvT e.symm
    rw [hc] at hc'
    cases hc'
  obtain ⟨e1, c1, q1⟩ := h.h1.isMap
  obtain ⟨e2, c2, q2⟩ := h.h2.isMap
  refine ⟨hl, hO _ h.og, hO _ h.o1, hO _ h.o2, h.ne, hg, h.h1.keep (hk _ h.o1 (map_ne h.hg q1).symm (hmn q1)), h.h2.keep (hk _ h.o2 (map_ne h.hg q2).symm (hmn q2)), hp, op, h.fl.keep hO fun k cur T ho hc hT => ?_⟩
  refine hk k ho (ty_ne hc h.hg ?_) (hpn hc ?_)
  · rcases hT with rfl | rfl <;> decide
  · rcases hT with rfl | rfl <;> decide
/-- The directory is written. -/
theorem FsAt.set1 {w w' : World} {O : Nat → Prop} {g m1 m2 : Nat} {pv : Value} {bl : Nat → Nat} {vs : Nat → Value} {s : SfS} (h : FsAt w O g m1 m2 pv bl vs s) (hs : w.heap.size ≤ w'.heap.size)
    (hk : ∀ k, O k → k ≠ m1 → w'.heap[k]? = w.heap[k]?) {l : List (List UInt8 × Nat)} (hm : SfMap w' m1 bl l) : FsAt w' O g m1 m2 pv bl vs { s with dir := l } := by
  obtain ⟨e1, c1, q1⟩ := h.h1.isMap
  refine ⟨fun k hk' => Nat.lt_of_lt_of_le (h.lt k hk') hs, h.og, h.o1, h.o2, h.ne, (hk _ h.og (map_ne h.hg q1)).trans h.hg, hm, h.h2.keep (hk _ h.o2 h.ne.symm), h.hp.keep fun k hk' => ?_, h.op, h.fl.keep (fun _ q => q) fun k cur T ho hc _ => hk k ho (map_ne hc q1)⟩
  obtain ⟨cur, hc⟩ := h.pvT hk'
  exact hk k (h.op k hk') (map_ne hc q1)
theorem FsAt.set2 {w w' : World} {O : Nat → Prop} {g m1 m2 : Nat} {pv : Value} {bl : Nat → Nat} {vs : Nat → Value} {s : SfS} (h : FsAt w O g m1 m2 pv bl vs s) (hs : w.heap.size ≤ w'.heap.size)
    (hk : ∀ k, O k → k ≠ m2 → w'.heap[k]? = w.heap[k]?) {l : List (List UInt8 × Nat)} (hm : SfMap w' m2 bl l) : FsAt w' O g m1 m2 pv bl vs { s with old := l } := by
  obtain ⟨e1, c1, q1⟩ := h.h2.isMap
  refine ⟨fun k hk' => Nat.lt_of_lt_of_le (h.lt k hk') hs, h.og, h.o1, h.o2, h.ne, (hk _ h.og (map_ne h.hg q1)).trans h.hg, h.h1.keep (hk _ h.o1 h.ne), hm, h.hp.keep fun k hk' => ?_, h.op, h.fl.keep (fun _ q => q) fun k cur T ho hc _ => hk k ho (map_ne hc q1)⟩
  obtain ⟨cur, hc⟩ := h.pvT hk'
  exact hk k (h.op k hk') (map_ne hc q1)
def updF {α : Type} (f : Nat → α) (i : Nat) (x : α) (j : Nat) : α := if j = i then x else f j
theorem updF_same {α : Type} (f : Nat → α) (i : Nat) (x : α) : updF f i x i = x := by simp [updF]
theorem updF_ne {α : Type} (f : Nat → α) {i j : Nat} (x : α) (h : j ≠ i) : updF f i x j = f j := by simp [updF, h]
def SfS.setF (s : SfS) (i : Nat) (f : List UInt8 × Nat) : SfS := { s with fls := s.fls.set i f }
/-- A file is written. -/
theorem FsAt.setI {w w' : World} {O O' : Nat → Prop} {g m1 m2 : Nat} {pv : Value} {bl : Nat → Nat} {vs : Nat → Value} {s : SfS} (h : FsAt w O g m1 m2 pv bl vs s) (hO : ∀ k, O k → O' k) (hl : ∀ k, O' k → k < w'.heap.size) {i : Nat} (hi : i < s.fls.length)
    (hk : ∀ k, O k → k ≠ bl i → some k ≠ (vs i).ownBlock → w'.heap[k]? = w.heap[k]?) {v : Value} {f : List UInt8 × Nat} (hf : w'.heap[bl i]? = some (.cells #[v, .int .i64 (f.2 : Int)] 90)) (hb : BOwn w' v f.1)
    (hv : ∀ k, v.ownBlock = some k → (vs i).ownBlock = some k ∨ (w.heap.size ≤ k ∧ O' k)) : FsAt w' O' g m1 m2 pv bl (updF vs i v) (s.setF i f) := by
  have hfi := h.fl.hf i _ (List.getElem?_eq_getElem hi)
  have hbi := h.fl.hb i _ (List.getElem?_eq_getElem hi)
  have hvn : ∀ {k : Nat} {cur : Array Value} {T : TypeId} {fr : Nat × Nat}, w.heap[k]? = some (.cells cur T fr) → T ≠ 5 → some k ≠ (vs i).ownBlock := by
    intro k cur T fr hc hT e
    obtain ⟨c, hc'⟩ := hbi.block e.symm
    rw [hc] at hc'
    simp at hc'
    exact hT hc'.2.1
  have hmn : ∀ {k : Nat} {es : Array MapEntry} {c : Nat}, w.heap[k]? = some (.map es c) → some k ≠ (vs i).ownBlock := by
    intro k es c hc e
    obtain ⟨c', hc'⟩ := hbi.block e.symm
    rw [hc] at hc'
    cases hc'
  obtain ⟨e1, c1, q1⟩ := h.h1.isMap
  obtain ⟨e2, c2, q2⟩ := h.h2.isMap
  have hvo : ∀ k, v.ownBlock = some k → O' k := fun k hk' => (hv k hk').elim (fun q => hO _ (h.fl.ov i hi k q)) (fun q => q.2)
  have hlen : (s.setF i f).fls.length = s.fls.length := by simp [SfS.setF]
  refine ⟨hl, hO _ h.og, hO _ h.o1, hO _ h.o2, h.ne, (hk _ h.og (ty_ne h.hg hfi (by decide)) (hvn h.hg (by decide))).trans h.hg, h.h1.keep (hk _ h.o1 (map_ne hfi q1).symm (hmn q1)), h.h2.keep (hk _ h.o2 (map_ne hfi q2).symm (hmn q2)), h.hp.keep fun k hk' => ?_, fun k hk' => hO k (h.op k hk'), ?_⟩
  · obtain ⟨cur, hc⟩ := h.pvT hk'
    exact hk k (h.op k hk') (ty_ne hc hfi (by decide)) (hvn hc (by decide))
  · refine ⟨fun j hj => hO _ (h.fl.ob j (hlen ▸ hj)), fun a b ha hb' => h.fl.nd a b (hlen ▸ ha) (hlen ▸ hb'), fun j fj hj => ?_, fun j fj hj => ?_, fun j hj k hk' => ?_, fun a b ha hb' k hk1 hk2 => ?_⟩
    · by_cases e : j = i
      · subst e
        have : fj = f := by simp [SfS.setF, hi] at hj; exact hj.symm
        subst this
        rw [updF_same]; exact hf
      · have hj' : s.fls[j]? = some fj := by simpa [SfS.setF, List.getElem?_set, Ne.symm e] using hj
        have hjl := (List.getElem?_eq_some_iff.1 hj').1
        rw [updF_ne _ _ e]
        have h0 := h.fl.hf j fj hj'
        exact (hk _ (h.fl.ob j hjl) (fun q => e (h.fl.nd j i hjl hi q)) (hvn h0 (by decide))).trans h0
    · by_cases e : j = i
      · subst e
        have : fj = f := by simp [SfS.setF, hi] at hj; exact hj.symm
        subst this
        rw [updF_same]; exact hb
      · have hj' : s.fls[j]? = some fj := by simpa [SfS.setF, List.getElem?_set, Ne.symm e] using hj
        have hjl := (List.getElem?_eq_some_iff.1 hj').1
        rw [updF_ne _ _ e]
        refine (h.fl.hb j fj hj').keep fun k hk' => ?_
        obtain ⟨cur, hc⟩ := (h.fl.hb j fj hj').block hk'
        exact hk k (h.fl.ov j hjl k hk') (ty_ne hc hfi (by decide)) (fun q => e (h.fl.nv j i hjl hi k hk' q.symm))
    · by_cases e : j = i
      · subst e; rw [updF_same] at hk'; exact hvo k hk'
      · rw [updF_ne _ _ e] at hk'; exact hO _ (h.fl.ov j (hlen ▸ hj) k hk')
    · have hal : a < s.fls.length := hlen ▸ ha
      have hbl : b < s.fls.length := hlen ▸ hb'
      have hx : ∀ a, a < s.fls.length → a ≠ i → (vs a).ownBlock = some k → v.ownBlock = some k → False := fun a ha' ea h1 h2 => by
        rcases hv k h2 with q | ⟨q, _⟩
        · exact ea (h.fl.nv a i ha' hi k h1 q)
        · have := h.lt k (h.fl.ov a ha' k h1); omega
      by_cases ea : a = i
      · by_cases eb : b = i
        · omega
        · subst ea
          rw [updF_same] at hk1
          rw [updF_ne _ _ eb] at hk2
          exact (hx b hbl eb hk2 hk1).elim
      · rw [updF_ne _ _ ea] at hk1
        by_cases eb : b = i
        · subst eb
          rw [updF_same] at hk2
          exact (hx a hal ea hk1 hk2).elim
        · rw [updF_ne _ _ eb] at hk2
          exact h.fl.nv a b hal hbl k hk1 hk2
end Go.Proofs.YtoibfepnecppmaaDoor

/- manifest: Read's own 'next'. -/
namespace Go.Proofs.YtoibfepnecppmaaDoor
open Go.RowKit

/-- The two boxes that it keeps. -/
def Bx (R D : Nat) (k : Nat) : Prop := k = R ∨ k = D
structure NxI (w : World) (O : Nat → Prop) (R D : Nat) (q : Bool × List UInt8) : Prop where
  r : ∃ v, w.heap[R]? = some (.cells #[v] 26) ∧ ∀ w', Onl O w w' → Reads w' v q.2
  d : w.heap[D]? = some (.cells #[.bool q.1] 4)
  ne : R ≠ D
  oR : O R
  oD : O D
theorem NxI.on {w w' : World} {O : Nat → Prop} {R D : Nat} {q : Bool × List UInt8} (h : NxI w O R D q) (ho : Onl O w w') (hR : w'.heap[R]? = w.heap[R]?) (hD : w'.heap[D]? = w.heap[D]?) : NxI w' O R D q := by
  obtain ⟨v, h1, h2⟩ := h.r
  exact ⟨⟨v, hR.trans h1, fun w2 ho2 => h2 w2 (ho.then ho2)⟩, hD.trans h.d, h.ne, h.oR, h.oD⟩
theorem NxI.below {w w' : World} {O : Nat → Prop} {R D : Nat} {q : Bool × List UInt8} (h : NxI w O R D q) (hb : Below w.heap.size w w') : NxI w' O R D q := by
  obtain ⟨v, h1, h2⟩ := h.r
  exact h.on (onl_of_below hb) (hb.block _ (Array.getElem?_eq_some_iff.1 h1).1) (hb.block _ (Array.getElem?_eq_some_iff.1 h.d).1)
theorem Bx.mono {w w' : World} {O : Nat → Prop} {R D : Nat} (h : Onl (Bx R D) w w') (hR : O R) (hD : O D) : Onl O w w' := h.mono fun k q => by
  rcases q with rfl | rfl
  · exact hR
  · exact hD
theorem cellB {w : World} {b : Nat} {v : Value} {T : TypeId} (h : w.heap[b]? = some (.cells #[v] T)) : w.cell? ⟨b, 0, none⟩ = some v ∧ w.frozen? ⟨b, 0, none⟩ = false := by simp [World.cell?, World.frozen?, h]
theorem setB {w : World} {b : Nat} {v u : Value} {T : TypeId} (h : w.heap[b]? = some (.cells #[v] T)) : (w.setCell ⟨b, 0, none⟩ u).heap[b]? = some (.cells #[u] T) := by
  rw [heap_setCell_same w b 0 #[v] T u h]; rfl
theorem rs_fits (b : List UInt8) : (rsF b 0 0).2.2 = 0 → (rsF b 0 0).2.1 ≤ b.length ∧ (rsF b 0 0).1 < 18446744073709551616 := fun h0 => by
  obtain ⟨u, k, g1, g2, g3, g4, g5, g6, g7⟩ := rsF_ok b 0 0 (rsF b 0 0).1 (rsF b 0 0).2.1 (by rw [← h0]) (by omega) (by simp)
  exact ⟨by omega, g7⟩
set_option maxRecDepth 100000 in
set_option maxHeartbeats 1000000 in
theorem next1_any (most : Nat) (hmo : most ≤ 9223372036854775807) (O : Nat → Prop) (R D : Nat) (q : Bool × List UInt8) (w : World) (h : NxI w O R D q) :
    Calls Tryd.prog 20 #[.int .u64 (most : Int), .pointer (some ⟨R, 0, none⟩), .pointer (some ⟨D, 0, none⟩)] w fun e w' => e = .returned (.int .i64 (stp most q).1) ∧ NxI w' O R D (stp most q).2 ∧ Onl (Bx R D) w w' := by
  obtain ⟨v, hR, hv⟩ := h.r
  have HH : Hid (NxI w O R D q) := h
  have HV : Hid (∀ w', Onl O w w' → Reads w' v q.2) := hv
  have hrd := hv w (Onl.refl _ _)
  obtain ⟨a, cap, rfl, hm⟩ := hrd.form
  have HC : Hid (Calls Tryd.prog 21 #[.slice a q.2.length cap] w fun e w' => e = .returned (.tuple #[.int .u64 (rsF q.2 0 0).1, .int .i64 (rsF q.2 0 0).2.1, .int .i64 (rsF q.2 0 0).2.2]) ∧ Below w.heap.size w w') := readShort_any _ q.2 w hrd
  have HRb : Hid (w.heap[R]? = some (.cells #[.slice a q.2.length cap] 26)) := hR
  have HDb : Hid (w.heap[D]? = some (.cells #[.bool q.1] 4)) := h.d
  have hne := h.ne
  have hoR := h.oR
  have hoD := h.oD
  obtain ⟨c0, f0⟩ := cellB hR
  have hft := rs_fits q.2
  have HS : Hid (stp most q = if (rsF q.2 0 0).2.2 ≠ 0 ∨ most < (rsF q.2 0 0).1 then (0, (true, q.2)) else (((rsF q.2 0 0).1 : Int), (q.1, q.2.drop (rsF q.2 0 0).2.1))) := by
    unfold Hid stp nxN
    by_cases c : (rsF q.2 0 0).2.2 ≠ 0 ∨ most < (rsF q.2 0 0).1
    · rw [if_pos c, if_pos c]
    · rw [if_neg c, if_neg c]
  obtain ⟨V, N, E, HT⟩ : ∃ V N E, Hid (rsF q.2 0 0 = (V, N, E)) := ⟨_, _, _, rfl⟩
  rw [HT.out] at HC HS hft
  simp only at HC HS hft
  clear h hv hR hrd HT
  go_enter Tryd.func20, Tryd.ntmps20
  go_wp2_with fail
  refine HC.out.mono ?_
  rintro e w1 ⟨rfl, hb1⟩
  have HB1 : Hid (Below w.heap.size w w1) := hb1
  have HR1 : Hid (w1.heap[R]? = some (.cells #[.slice a q.2.length cap] 26)) := (hb1.block _ (Array.getElem?_eq_some_iff.1 HRb.out).1).trans HRb.out
  have HD1 : Hid (w1.heap[D]? = some (.cells #[.bool q.1] 4)) := (hb1.block _ (Array.getElem?_eq_some_iff.1 HDb.out).1).trans HDb.out
  clear hb1 c0 f0
  obtain ⟨c0, f0⟩ := cellB HR1.out
  obtain ⟨d0, g0⟩ := cellB HD1.out
  by_cases hE : E = 0
  · subst hE
    obtain ⟨hN, hV⟩ := hft rfl
    by_cases hV2 : (most : Int) < (V : Int)
    · have HS2 : Hid (stp most q = (0, (true, q.2))) := by unfold Hid; rw [HS.out, if_pos (.inr (by omega))]
      clear HS hft
      go_wp2_with fail
      go_ret
      have hon : Onl (Bx R D) w (w1.setCell ⟨D, 0, none⟩ (.bool true)) := (onl_of_below HB1.out).then (Onl.set (a := ⟨D, 0, none⟩) (.inr rfl) _)
      refine ⟨by rw [HS2.out]; rfl, ?_, hon⟩
      rw [HS2.out]
      exact ⟨⟨_, (Go.heap_setCell_other _ _ _ _ hne).trans HR1.out, fun w2 ho => HV.out w2 ((Bx.mono hon hoR hoD).then ho)⟩, setB HD1.out, hne, hoR, hoD⟩
    · have HS2 : Hid (stp most q = ((V : Int), (q.1, q.2.drop N))) := by unfold Hid; rw [HS.out, if_neg (by simp; omega)]
      obtain ⟨a', cap', hsl, _⟩ := sl_from (HV.out w (Onl.refl _ _)) hN
      have HSl : Hid (∀ w', Onl O w w' → Reads w' (.slice a' (q.2.length - N) cap') (q.2.drop N)) := fun w' ho => by
        obtain ⟨a2, cap2, hsl2, hr2⟩ := sl_from (HV.out w' ho) hN
        have e := (hsl w').symm.trans (hsl2 w')
        simp only [Result.ok.injEq, Value.slice.injEq, true_and, and_true] at e
        obtain ⟨rfl, rfl⟩ := e
        exact hr2
      clear HS hft
      have hwr : IntKind.i64.wrap (V : Int) = (V : Int) := by simp [IntKind.wrap, IntKind.bits, IntKind.signed]; omega
      go_wp2_with fail
      go_ret
      have hon : Onl (Bx R D) w (w1.setCell ⟨R, 0, none⟩ (.slice a' (q.2.length - N) cap')) := (onl_of_below HB1.out).then (Onl.set (a := ⟨R, 0, none⟩) (.inl rfl) _)
      refine ⟨by rw [HS2.out]; rfl, ?_, hon⟩
      rw [HS2.out]
      exact ⟨⟨_, setB HR1.out, fun w2 ho => HSl.out w2 ((Bx.mono hon hoR hoD).then ho)⟩, (Go.heap_setCell_other _ _ _ _ (fun e => hne e.symm)).trans HD1.out, hne, hoR, hoD⟩
  · have hE' : (E != 0) = true := by simpa using hE
    have HS2 : Hid (stp most q = (0, (true, q.2))) := by unfold Hid; rw [HS.out, if_pos (.inl hE)]
    clear HS hft
    go_wp2_with fail
    go_ret
    have hon : Onl (Bx R D) w (w1.setCell ⟨D, 0, none⟩ (.bool true)) := (onl_of_below HB1.out).then (Onl.set (a := ⟨D, 0, none⟩) (.inr rfl) _)
    refine ⟨by rw [HS2.out]; rfl, ?_, hon⟩
    rw [HS2.out]
    exact ⟨⟨_, (Go.heap_setCell_other _ _ _ _ hne).trans HR1.out, fun w2 ho => HV.out w2 ((Bx.mono hon hoR hoD).then ho)⟩, setB HD1.out, hne, hoR, hoD⟩
end Go.Proofs.YtoibfepnecppmaaDoor
