/- MF8 MF9 MFa SS SF2, joined. -/
import Derived.Test.YtilbffgpniomcaaGreatDoorQQ1
import Derived.Test.YtilbffgpniomcaaGreatDoorQQ3
import Derived.Deep.MidRow
import Derived.RegionTactic
import Derived.BigRegion
import Derived.Deep.QuietTactic
import Derived.BigQuiet
import Derived.OwnWalk
/- manifest: rows of numbers that grow; runs in memory. -/
namespace Go.Proofs.YtilbffgpniomcaaGreatDoor
open Go.RowKit

def ji (x : Int) : Value := .int .i64 x
/-- A row of numbers of one's own. -/
def JO (w : World) (v : Value) (l : List Int) : Prop := GOwn w 2 1 v l.length (l.map ji)
theorem infoJ : (Tryz.prog.info? 2).map (fun i => (i.zero, i.size, i.bytes)) = some (some (.int .i64 0), 1, 8) := by kernel_rfl
theorem JO.jr {w : World} {v : Value} {l : List Int} (h : JO w v l) : JR w v l := by
  have hc := @GOwn.cells _ _ _ _ _ _ h
  rcases h.2 with ⟨rfl, h0⟩ | ⟨g, cap, cur, rfl, h3, h4, h5, h6, h7⟩
  · exact ⟨none, 0, by rw [h0], by rw [h0]; exact Nat.zero_le _, fun j hj => by omega⟩
  · refine ⟨_, cap, rfl, Nat.le_trans h4 h5, fun j hj => ⟨g, 0, rfl, (Array.getElem?_eq_some_iff.1 h3).1, ?_⟩⟩
    have := hc (g := g) rfl j (ji l[j]) (by simp [hj])
    have ea : (⟨g, 0, none⟩ : Addr).add j = ⟨g, 0 + j, none⟩ := by simp [Addr.add]; omega
    rw [ea] at this
    exact this
/-- append of some numbers that stand in a new block. -/
theorem run_appJ {w : World} (ty : TypeId) (v : Value) (l ns : List Int) (h : JO w v l) (hk : ∀ k, v.ownBlock = some k → k < w.heap.size) (hl : l.length + ns.length < 1099511627776) :
    ∃ v' w', (Builtin.append_ #[125, 125] ty #[v, .slice (some ⟨w.heap.size, 0, none⟩) ns.length ns.length]).run Tryz.prog (w.alloc (.cells (ns.map ji).toArray 2)) = .ok v' w' ∧ JO w' v' (l ++ ns) ∧ (w.alloc (.cells (ns.map ji).toArray 2)).grownBy w' v.ownBlock ∧ (∀ k, v'.ownBlock = some k → v.ownBlock = some k ∨ (w.heap.size ≤ k ∧ k < w'.heap.size)) := by
  obtain ⟨i0, hi, hz0, hz1, hz2⟩ := info_parts infoJ
  have h0 : GOwn (w.alloc (.cells (ns.map ji).toArray 2)) 2 1 v l.length (l.map ji) := GOwn.keep h fun k hq => Below.heap_alloc _ _ _ (hk k hq)
  have hb4 := heap_alloc_new w (.cells (ns.map ji).toArray 2)
  have hsr : GSrc (w.alloc (.cells (ns.map ji).toArray 2)) 1 (.slice (some ⟨w.heap.size, 0, none⟩) ns.length ns.length) ns.length (ns.map ji) := by
    refine ⟨by simp, .inr ⟨_, _, rfl, fun k u hq => ?_⟩⟩
    have ea : (⟨w.heap.size, 0, none⟩ : Addr).add k = ⟨w.heap.size, k, none⟩ := by simp [Addr.add]; omega
    rw [ea]
    simp only [World.cell?, hb4]
    simpa using hq
  obtain ⟨v', w', h1, h2, h3, h4⟩ := run_gapp (P := Tryz.prog) 125 ty 2 i0 _ 1 8 Tryz.underlying125 hi hz0 hz1 hz2 rfl v l.length _ h0 _ ns.length (ns.map ji) hsr (by
    intro u hu
    obtain ⟨x, _, rfl⟩ := List.mem_map.1 hu
    rfl) (by simp only [maxLen]; omega) (by omega)
  refine ⟨v', w', h1, ?_, h3, fun k hq => ?_⟩
  · unfold JO
    rw [List.length_append, List.map_append]; exact h2
  · rcases h4 k hq with h | h
    · exact .inl h
    · exact .inr ⟨by have := h.1; simp at this; omega, h.2⟩
/-- A slice of runs. -/
def RuR (w : World) (v : Value) (L : List Ru) : Prop := ∃ a cap, v = .slice a L.length cap ∧ L.length ≤ maxLen ∧ ∀ j (hj : j < L.length), ∃ b off, a = some ⟨b, off, none⟩ ∧ b < w.heap.size ∧ w.cell? ⟨b, off + j * 3, none⟩ = some (.int .i64 L[j].f) ∧ w.cell? ⟨b, off + j * 3 + 1, none⟩ = some (.int .i64 L[j].l) ∧ w.cell? ⟨b, off + j * 3 + 2, none⟩ = some (.int .i64 L[j].c)
theorem RuR.form {w : World} {v : Value} {L : List Ru} (h : RuR w v L) : ∃ a cap, v = .slice a L.length cap ∧ L.length ≤ maxLen := by
  obtain ⟨a, cap, h1, h2, _⟩ := h
  exact ⟨a, cap, h1, h2⟩
theorem RuR.below {w w' : World} {v : Value} {L : List Ru} (h : RuR w v L) (hb : Below w.heap.size w w') : RuR w' v L := by
  obtain ⟨a, cap, h1, h2, h3⟩ := h
  refine ⟨a, cap, h1, h2, fun j hj => ?_⟩
  obtain ⟨b, off, q1, q2, q3, q4, q5⟩ := h3 j hj
  exact ⟨b, off, q1, Nat.lt_of_lt_of_le q2 hb.size, (hb.cell (p := ⟨b, off + j * 3, none⟩) q2).trans q3, (hb.cell (p := ⟨b, off + j * 3 + 1, none⟩) q2).trans q4, (hb.cell (p := ⟨b, off + j * 3 + 2, none⟩) q2).trans q5⟩
/-- An edit in memory. -/
structure EdR (w : World) (dv av : Value) (x : Ed) : Prop where
  d : JR w dv x.dr
  a : RuR w av x.ad
theorem EdR.below {w w' : World} {dv av : Value} {x : Ed} (h : EdR w dv av x) (hb : Below w.heap.size w w') : EdR w' dv av x := ⟨h.d.below hb, h.a.below hb⟩
end Go.Proofs.YtilbffgpniomcaaGreatDoor

/- manifest: an edit's numbers. -/
namespace Go.Proofs.YtilbffgpniomcaaGreatDoor
open Go.RowKit

/-- A row that grows, above a base. -/
structure JG (base : Nat) (w W : World) (v : Value) (l : List Int) : Prop where
  o : JO W v l
  k : ∀ k, v.ownBlock = some k → base ≤ k ∧ k < W.heap.size
  b : Below base w W
theorem JG.below {base : Nat} {w W W' : World} {v : Value} {l : List Int} (h : JG base w W v l) (hb : Below W.heap.size W W') (hs : base ≤ W.heap.size) : JG base w W' v l :=
  ⟨GOwn.keep h.o fun k q => hb.block k (h.k k q).2, fun k q => ⟨(h.k k q).1, Nat.lt_of_lt_of_le (h.k k q).2 hb.size⟩, h.b.trans (hb.mono hs)⟩
theorem JG.app {base : Nat} {w W : World} {v : Value} {l : List Int} (h : JG base w W v l) (hs : base ≤ W.heap.size) (ty : TypeId) (ns : List Int) (hl : l.length + ns.length < 1099511627776) :
    ∃ v' w', (Builtin.append_ #[125, 125] ty #[v, .slice (some ⟨W.heap.size, 0, none⟩) ns.length ns.length]).run Tryz.prog (W.alloc (.cells (ns.map ji).toArray 2)) = .ok v' w' ∧ JG base w w' v' (l ++ ns) ∧ base ≤ w'.heap.size := by
  obtain ⟨v', w', h1, h2, h3, h4⟩ := run_appJ ty v l ns h.o (fun k q => (h.k k q).2) hl
  have hsz := h3.size
  simp only [World.size_alloc] at hsz
  refine ⟨v', w', h1, ⟨h2, fun k q => ?_, (h.b.alloc hs _).grown h3 (by simp; omega) (fun k q => (h.k k q).1)⟩, by omega⟩
  rcases h4 k q with z | z
  · have := h.k k z; omega
  · omega
end Go.Proofs.YtilbffgpniomcaaGreatDoor

/- manifest: words for the walk of numbers. -/
namespace Go.Proofs.YtilbffgpniomcaaGreatDoor
open Go.RowKit

theorem five {w : World} {b : Nat} {T : TypeId} {c0 c1 c2 c3 c4 : Value} (h : w.heap[b]? = some (.cells #[c0, c1, c2, c3, c4] T)) : w.cell? ⟨b, 0, none⟩ = some c0 ∧ w.cell? ⟨b, 1, none⟩ = some c1 ∧ w.cell? ⟨b, 2, none⟩ = some c2 ∧ w.cell? ⟨b, 3, none⟩ = some c3 ∧ w.cell? ⟨b, 4, none⟩ = some c4 := by
  refine ⟨?_, ?_, ?_, ?_, ?_⟩ <;> simp [World.cell?, h]
theorem RuR.at {w : World} {a : Option Addr} {n cap : Nat} {L : List Ru} (h : RuR w (.slice a n cap) L) {j : Nat} (hj : j < L.length) {x : Ru} (hx : x = L[j]) : ∃ b off, a = some ⟨b, off, none⟩ ∧ b < w.heap.size ∧ w.cell? ⟨b, off + j * 3, none⟩ = some (.int .i64 x.f) ∧ w.cell? ⟨b, off + j * 3 + 1, none⟩ = some (.int .i64 x.l) ∧ w.cell? ⟨b, off + j * 3 + 2, none⟩ = some (.int .i64 x.c) := by
  subst hx
  obtain ⟨a', cap', e, _, h3⟩ := h
  cases e
  exact h3 j hj
theorem jg_one (w : World) (n : Int) : JG w.heap.size w (w.alloc (.cells #[.int .i64 n] 2)) (.slice (some ⟨w.heap.size, 0, none⟩) 1 1) [n] :=
  ⟨⟨rfl, .inr ⟨w.heap.size, 1, #[.int .i64 n], rfl, heap_alloc_new _ _, Nat.le_refl _, by unfold maxLen; omega, by simp, rfl⟩⟩, fun k hk => by simp [Value.ownBlock] at hk; subst hk; simp, (Below.refl _ _).alloc (Nat.le_refl _) _⟩
theorem snocI {l : List Int} {j : Nat} (hj : j < l.length) {x : Int} (hx : x = l[j]) : l.take (j + 1) = l.take j ++ [x] := by
  rw [List.take_add_one, List.getElem?_eq_getElem hj, hx]; rfl
theorem snocR {l : List Ru} {j : Nat} (hj : j < l.length) {x : Ru} (hx : x = l[j]) : (l.take (j + 1)).flatMap Ru.n = (l.take j).flatMap Ru.n ++ [x.f, x.l, x.c] := by
  rw [List.take_add_one, List.getElem?_eq_getElem hj, List.flatMap_append, hx]
  simp [Ru.n]
end Go.Proofs.YtilbffgpniomcaaGreatDoor

/- A struct is stored: the world behind it, by name. -/
namespace Go.Proofs.YtilbffgpniomcaaGreatDoor
open Go.RowKit

/-- W is w, but for some cells of one block. -/
structure StW (w W : World) (g off : Nat) (cur : Array Value) (T : TypeId) (vs : List Value) : Prop where
  b : ∀ lo, lo ≤ g → Below lo w W
  o : ∀ k, k ≠ g → W.heap[k]? = w.heap[k]?
  c : ∃ cur', W.heap[g]? = some (.cells cur' T) ∧ cur'.size = cur.size ∧ (∀ k, k < off ∨ off + vs.length ≤ k → cur'[k]? = cur[k]?) ∧ ∀ i (hi : i < vs.length), cur'[off + i]? = some vs[i]
theorem stW_cells (g : Nat) (T : TypeId) : ∀ (vs : List Value) (off : Nat) (w : World) (cur : Array Value), w.heap[g]? = some (.cells cur T) → off + vs.length ≤ cur.size → StW w (w.setCells g off vs) g off cur T vs
  | [], off, w, cur, hg, _ => ⟨fun lo _ => Below.refl _ _, fun _ _ => rfl, ⟨cur, hg, rfl, fun _ _ => rfl, fun i hi => by simp at hi⟩⟩
  | v :: r, off, w, cur, hg, hl => by
    have h1 := heap_setCell_same w g off cur T v hg
    have ih := stW_cells g T r (off + 1) (w.setCell ⟨g, off, none⟩ v) (cur.setIfInBounds off v) h1 (by simp at hl ⊢; omega)
    have e : w.setCells g off (v :: r) = (w.setCell ⟨g, off, none⟩ v).setCells g (off + 1) r := rfl
    rw [e]
    obtain ⟨cur', c1, c2, c3, c4⟩ := ih.c
    refine ⟨fun lo hlo => ((Below.refl _ _).setCell hlo _).trans (ih.b lo hlo), fun k hk => (ih.o k hk).trans (Below.heap_setCell _ _ _ _ hk), ⟨cur', c1, by simpa using c2, fun k hk => ?_, fun i hi => ?_⟩⟩
    · simp at hk
      rw [c3 k (by omega), Array.getElem?_setIfInBounds_ne (by omega)]
    · cases i with
      | zero =>
        have hs : off < cur.size := by simp at hl; omega
        rw [Nat.add_zero, c3 off (.inl (by omega))]
        simp [hs]
      | succ i =>
        have := c4 i (by simpa using hi)
        rw [show off + (i + 1) = off + 1 + i by omega, this]
        simp
section
variable {ops : Array Oper} {rest : List Oper} {op : Oper} {a : Act} {w : World} {Q : Exit → Act → World → Prop}
theorem there_of {g off n : Nat} {cur : Array Value} {T : TypeId} (hg : w.heap[g]? = some (.cells cur T)) (hl : off + n ≤ cur.size) : w.there g off n := fun j hj => ⟨by
  have : off + j < cur.size := by omega
  simp [World.cell?, hg, this], by simp [World.frozen?, hg]⟩
theorem wp_storeN {K : Act → World → Prop} (ty : TypeId) (x y : Operand) (ho : op.op = .store ty x y) (g off : Nat) (vs : List Value) (hx : a.eval x = .pointer (some ⟨g, off, none⟩)) (hy : a.eval y = .agg vs.toArray)
    (cur : Array Value) (T : TypeId) (hg : w.heap[g]? = some (.cells cur T)) (hl : off + vs.length ≤ cur.size) (hi : (Tryz.prog.info? ty).map (·.size) = some vs.length) (h1 : vs.toArray.all (·.oneCell') = true)
    (h : ∀ W, StW w W g off cur T vs → K (a.put op.dst undef) W) : op.wp Tryz.prog a w K Q :=
  wp_store_mid ty x y ho g off vs.toArray hx hy (there_of hg (by simpa using hl)) (by simpa using hi) h1 (h _ (stW_cells g T vs off w cur hg hl))
theorem wpList_storeN (hgd : op.guard = none) (ty : TypeId) (x y : Operand) (ho : op.op = .store ty x y) (g off : Nat) (vs : List Value) (hx : a.eval x = .pointer (some ⟨g, off, none⟩)) (hy : a.eval y = .agg vs.toArray)
    (cur : Array Value) (T : TypeId) (hg : w.heap[g]? = some (.cells cur T)) (hl : off + vs.length ≤ cur.size) (hi : (Tryz.prog.info? ty).map (·.size) = some vs.length) (h1 : vs.toArray.all (·.oneCell') = true)
    (h : ∀ W, StW w W g off cur T vs → wpList Tryz.prog ops Q rest (a.put op.dst undef) W) : wpList Tryz.prog ops Q (op :: rest) a w :=
  wpList_plain hgd fun _ hK => wp_storeN ty x y ho g off vs hx hy cur T hg hl hi h1 (fun W hW => hK _ _ (h W hW))
/-- The walk stands still here. -/
structure Stop (p : Prop) : Prop where
  out : p
theorem stop_store (ty : TypeId) (x y : Operand) (_ho : op.op = .store ty x y) (h : Stop (wpList Tryz.prog ops Q (op :: rest) a w)) : wpList Tryz.prog ops Q (op :: rest) a w := h.out
theorem Stop.of {p : Prop} (h : p) : Stop p := ⟨h⟩
end
end Go.Proofs.YtilbffgpniomcaaGreatDoor

/- A file system's calls, plainly; its small ones in memory. -/
namespace Go.Proofs.YtilbffgpniomcaaGreatDoor
open Go.RowKit Go.Maps

def sfOkC (c : UInt8) : Bool := (decide (97 ≤ c.toNat) && decide (c.toNat ≤ 122)) || (decide (48 ≤ c.toNat) && decide (c.toNat ≤ 57)) || (c.toNat == 46) || (c.toNat == 45)
def sfName (s : List UInt8) : Bool := decide (1 ≤ s.length) && decide (s.length ≤ 32) && s.all sfOkC
def sfPlan (s : SfS) : Int × SfS := if s.fault = 0 then (0, s) else if 0 < s.left then (0, { s with left := s.left - 1 }) else (s.fault, { s with fault := 0 })
def sfChange (s : SfS) (a : SfA) : Int × SfS := if (sfPlan s).1 = 0 then (0, { (sfPlan s).2 with dir := sfDo (sfPlan s).2.dir a, pend := (sfPlan s).2.pend ++ [a] }) else sfPlan s
def sfNew (s : SfS) : SfS := { s with fls := s.fls ++ [([], 0)] }
def sfCreate (s : SfS) (n : List UInt8) : Int × SfS := if sfName n = false then (1, s) else if (sfLook n s.dir).isSome = true then (80, s) else if 256 ≤ s.dir.length then (81, s) else sfChange (sfNew s) ⟨[], n, some s.fls.length⟩
def sfUsed (s : SfS) : Nat := (s.dir.map fun p => (s.fl p.2).1.length).sum
def sfAppend (s : SfS) (n b : List UInt8) : Int × SfS := match sfLook n s.dir with
  | none => (4, s)
  | some i => if 1048576 < (s.fl i).1.length + b.length then (2, s) else if s.room < ((sfUsed s + b.length : Nat) : Int) then (81, s) else
    if (sfPlan s).1 = 0 then (0, (sfPlan s).2.setF i ((s.fl i).1 ++ b, (s.fl i).2)) else sfPlan s
def sfSync (s : SfS) (n : List UInt8) : Int × SfS := match sfLook n s.dir with
  | none => (4, s)
  | some i => if (sfPlan s).1 = 0 then (0, (sfPlan s).2.setF i ((s.fl i).1, (s.fl i).1.length)) else sfPlan s
def sfRename (s : SfS) (n m : List UInt8) : Int × SfS := if sfName m = false then (1, s) else match sfLook n s.dir with
  | none => (4, s)
  | some i => sfChange s ⟨n, m, some i⟩
def sfRemove (s : SfS) (n : List UInt8) : Int × SfS := match sfLook n s.dir with
  | none => (4, s)
  | some _ => sfChange s ⟨n, [], none⟩
def sfSettle (s : SfS) (k : Nat) : SfS := { s with old := (s.pend.take k).foldl sfDo s.old, pend := [] }
def sfSyncDir (s : SfS) : Int × SfS := if (sfPlan s).1 = 0 then (0, sfSettle (sfPlan s).2 s.pend.length) else sfPlan s
def sfCut (f : List UInt8 × Nat) (keep : Int) : List UInt8 × Nat := (f.1.take (f.2 + min (max keep 0).toNat (f.1.length - f.2)), f.2 + min (max keep 0).toNat (f.1.length - f.2))
def sfCuts : List (List UInt8 × Nat) → List Int → List (List UInt8 × Nat) → List (List UInt8 × Nat)
  | [], _, fls => fls
  | p :: r, ks, fls => sfCuts r ks.tail (fls.set p.2 (sfCut (fls.getD p.2 ([], 0)) (ks.headD 0)))
def sfCrash (s : SfS) (n : Int) (ks : List Int) : SfS :=
  { sfSettle s (max n 0).toNat with dir := (sfSettle s (max n 0).toNat).old, fls := sfCuts (sfSettle s (max n 0).toNat).old ks s.fls, fault := 0 }
def sfFail (s : SfS) (n e : Int) : Int × SfS := if e ≠ 81 ∧ e ≠ 82 then (1, s) else if n < 0 then (0, { s with fault := 0 }) else (0, { s with left := n, fault := e })
/-- What every file system is. -/
structure SfWf (s : SfS) : Prop where
  r1 : 1 ≤ s.room
  r2 : s.room < 9223372036854775808
  l1 : -9223372036854775808 ≤ s.left
  l2 : s.left < 9223372036854775808
  di : ∀ p ∈ s.dir, p.2 < s.fls.length ∧ p.1.length ≤ 32
  oi : ∀ p ∈ s.old, p.2 < s.fls.length ∧ p.1.length ≤ 32
  pi : ∀ a ∈ s.pend, (∀ i, a.file = some i → i < s.fls.length) ∧ a.gone.length ≤ 32 ∧ a.name.length ≤ 32
  ap : s.dir = s.pend.foldl sfDo s.old
  ln : ∀ k, ((s.pend.take k).foldl sfDo s.old).length ≤ 256
  sy : ∀ (i : Nat) (f : List UInt8 × Nat), s.fls[i]? = some f → f.2 ≤ f.1.length ∧ f.1.length ≤ 1048576

theorem made_nil (w : World) : Calls Tryz.prog 30 #[.pointer none] w fun e w' => e = .returned (.bool false) ∧ w' = w := by
  go_enter Tryz.func30, Tryz.ntmps30
  go_wp2
  go_ret
  exact ⟨rfl, rfl⟩
theorem made_zero {g : Nat} (w : World) (h : w.cell? ⟨g, 0, none⟩ = some (.int .i64 0)) : Calls Tryz.prog 30 #[.pointer (some ⟨g, 0, none⟩)] w fun e w' => e = .returned (.bool false) ∧ w' = w := by
  go_enter Tryz.func30, Tryz.ntmps30
  go_wp2
  go_ret
  exact ⟨rfl, rfl⟩
theorem made_cell {g : Nat} {r : Int} (w : World) (h : w.cell? ⟨g, 0, none⟩ = some (.int .i64 r)) (h1 : 1 ≤ r) : Calls Tryz.prog 30 #[.pointer (some ⟨g, 0, none⟩)] w fun e w' => e = .returned (.bool true) ∧ w' = w := by
  have hd : (0 : Int) < r := by omega
  go_enter Tryz.func30, Tryz.ntmps30
  go_wp2
  go_ret
  exact ⟨rfl, rfl⟩
theorem FsAt.c0 {w : World} {O : Nat → Prop} {g m1 m2 : Nat} {pv : Value} {bl : Nat → Nat} {vs : Nat → Value} {s : SfS} (h : FsAt w O g m1 m2 pv bl vs s) : w.cell? ⟨g, 0, none⟩ = some (.int .i64 s.room) := by simp [World.cell?, h.hg]
theorem FsAt.c1 {w : World} {O : Nat → Prop} {g m1 m2 : Nat} {pv : Value} {bl : Nat → Nat} {vs : Nat → Value} {s : SfS} (h : FsAt w O g m1 m2 pv bl vs s) : w.cell? ⟨g, 1, none⟩ = some (.map (some m1)) := by simp [World.cell?, h.hg]
theorem FsAt.c2 {w : World} {O : Nat → Prop} {g m1 m2 : Nat} {pv : Value} {bl : Nat → Nat} {vs : Nat → Value} {s : SfS} (h : FsAt w O g m1 m2 pv bl vs s) : w.cell? ⟨g, 2, none⟩ = some (.map (some m2)) := by simp [World.cell?, h.hg]
theorem FsAt.c3 {w : World} {O : Nat → Prop} {g m1 m2 : Nat} {pv : Value} {bl : Nat → Nat} {vs : Nat → Value} {s : SfS} (h : FsAt w O g m1 m2 pv bl vs s) : w.cell? ⟨g, 3, none⟩ = some pv := by simp [World.cell?, h.hg]
theorem FsAt.c4 {w : World} {O : Nat → Prop} {g m1 m2 : Nat} {pv : Value} {bl : Nat → Nat} {vs : Nat → Value} {s : SfS} (h : FsAt w O g m1 m2 pv bl vs s) : w.cell? ⟨g, 4, none⟩ = some (.int .i64 s.left) := by simp [World.cell?, h.hg]
theorem FsAt.c5 {w : World} {O : Nat → Prop} {g m1 m2 : Nat} {pv : Value} {bl : Nat → Nat} {vs : Nat → Value} {s : SfS} (h : FsAt w O g m1 m2 pv bl vs s) : w.cell? ⟨g, 5, none⟩ = some (.int .i64 s.fault) := by simp [World.cell?, h.hg]
theorem FsAt.fz {w : World} {O : Nat → Prop} {g m1 m2 : Nat} {pv : Value} {bl : Nat → Nat} {vs : Nat → Value} {s : SfS} (h : FsAt w O g m1 m2 pv bl vs s) (k : Nat) : w.frozen? ⟨g, k, none⟩ = false := by simp [World.frozen?, h.hg]
theorem made_any {w : World} {O : Nat → Prop} {g m1 m2 : Nat} {pv : Value} {bl : Nat → Nat} {vs : Nat → Value} {s : SfS} (h : FsAt w O g m1 m2 pv bl vs s) (hw : SfWf s) :
    Calls Tryz.prog 30 #[.pointer (some ⟨g, 0, none⟩)] w fun e w' => e = .returned (.bool true) ∧ w' = w := made_cell w h.c0 hw.r1
theorem find_nil (n : List UInt8) (w : World) : Calls Tryz.prog 33 #[.pointer none, .string ⟨n.toArray⟩] w fun e w' => e = .returned (.tuple #[.pointer none, .int .i64 6]) ∧ w' = w := by
  go_enter Tryz.func33, Tryz.ntmps33
  go_wp2_with (go_at_call 30; refine (made_nil _).mono ?_; rintro e w' ⟨rfl, rfl⟩)
  go_ret2
  exact ⟨rfl, rfl⟩
theorem find_zero {g : Nat} (n : List UInt8) (w : World) (h : w.cell? ⟨g, 0, none⟩ = some (.int .i64 0)) : Calls Tryz.prog 33 #[.pointer (some ⟨g, 0, none⟩), .string ⟨n.toArray⟩] w fun e w' => e = .returned (.tuple #[.pointer none, .int .i64 6]) ∧ w' = w := by
  go_enter Tryz.func33, Tryz.ntmps33
  go_wp2_with (go_at_call 30; refine (made_zero _ h).mono ?_; rintro e w' ⟨rfl, rfl⟩)
  go_ret2
  exact ⟨rfl, rfl⟩
def sfFe : Option Nat → Int
  | none => 4
  | some _ => 0
theorem find_any {w : World} {O : Nat → Prop} {g m1 m2 : Nat} {pv : Value} {bl : Nat → Nat} {vs : Nat → Value} {s : SfS} (h : FsAt w O g m1 m2 pv bl vs s) (hw : SfWf s) (n : List UInt8) (hn : n.length ≤ maxLen) :
    Calls Tryz.prog 33 #[.pointer (some ⟨g, 0, none⟩), .string ⟨n.toArray⟩] w fun e w' => e = .returned (.tuple #[sfPv bl (sfLook n s.dir), .int .i64 (sfFe (sfLook n s.dir))]) ∧ w' = w := by
  have c0 := h.c0
  have c1 := h.c1
  have hr := h.h1.look n hn
  have h1 := hw.r1
  clear h hw
  cases hl : sfLook n s.dir with
  | none =>
    rw [hl] at hr
    simp only [sfPv] at hr
    go_enter Tryz.func33, Tryz.ntmps33
    go_wp2_with (go_at_call 30; refine (made_cell _ c0 h1).mono ?_; rintro e w' ⟨rfl, rfl⟩)
    go_ret2
    exact ⟨rfl, rfl⟩
  | some i =>
    rw [hl] at hr
    simp only [sfPv] at hr
    go_enter Tryz.func33, Tryz.ntmps33
    go_wp2_with (go_at_call 30; refine (made_cell _ c0 h1).mono ?_; rintro e w' ⟨rfl, rfl⟩)
    go_ret2
    exact ⟨rfl, rfl⟩
theorem cells_set {w : World} {g : Nat} {cs : Array Value} {T : TypeId} (h : w.heap[g]? = some (.cells cs T)) (k : Nat) (v : Value) : (w.setCell ⟨g, k, none⟩ v).heap[g]? = some (.cells (cs.setIfInBounds k v) T) := heap_setCell_same w g k cs T v h
theorem planned_any {w : World} {O : Nat → Prop} {g m1 m2 : Nat} {pv : Value} {bl : Nat → Nat} {vs : Nat → Value} {s : SfS} (h : FsAt w O g m1 m2 pv bl vs s) (hw : SfWf s) :
    Calls Tryz.prog 35 #[.pointer (some ⟨g, 0, none⟩)] w fun e w' => e = .returned (.int .i64 (sfPlan s).1) ∧ FsAt w' O g m1 m2 pv bl vs (sfPlan s).2 ∧ Onl O w w' ∧ w'.heap.size = w.heap.size := by
  have c4 := h.c4
  have c5 := h.c5
  have f4 := h.fz 4
  have f5 := h.fz 5
  unfold sfPlan
  by_cases h0 : s.fault = 0
  · rw [if_pos h0]
    rw [h0] at c5
    have H := (show Hid _ from h)
    clear h hw h0
    go_enter Tryz.func35, Tryz.ntmps35
    go_wp2
    go_ret
    exact ⟨rfl, H.out, Onl.refl _ _, rfl⟩
  · rw [if_neg h0]
    have h0' : (s.fault == 0) = false := by simpa using h0
    by_cases hl : 0 < s.left
    · rw [if_pos hl]
      have H := (show Hid _ from h)
      have l2 := hw.l2
      have hl' : 1 ≤ s.left := hl
      clear h hw
      go_enter Tryz.func35, Tryz.ntmps35
      go_wp2
      go_ret
      refine ⟨rfl, ?_, Onl.set (a := ⟨g, 4, none⟩) H.out.og _, by simp [World.setCell]⟩
      refine H.out.setG (fun _ q => q) (fun k q => by have := H.out.lt k q; simp [World.setCell]; exact this) (fun k _ hk _ => Below.heap_setCell _ _ _ _ hk) ?_ (H.out.hp.keep fun k hk => ?_) H.out.op
      · have := cells_set H.out.hg 4 (.int .i64 (s.left - 1)); simpa using this
      · obtain ⟨cur, hc⟩ := H.out.pvT hk
        exact Below.heap_setCell _ _ _ _ (ty_ne hc H.out.hg (by decide))
    · rw [if_neg hl]
      have H := (show Hid _ from h)
      clear h hw
      go_enter Tryz.func35, Tryz.ntmps35
      go_wp2
      go_ret
      refine ⟨rfl, ?_, Onl.set (a := ⟨g, 5, none⟩) H.out.og _, by simp [World.setCell]⟩
      refine H.out.setG (fun _ q => q) (fun k q => by have := H.out.lt k q; simp [World.setCell]; exact this) (fun k _ hk _ => Below.heap_setCell _ _ _ _ hk) ?_ (H.out.hp.keep fun k hk => ?_) H.out.op
      · have := cells_set H.out.hg 5 (.int .i64 0); simpa using this
      · obtain ⟨cur, hc⟩ := H.out.pvT hk
        exact Below.heap_setCell _ _ _ _ (ty_ne hc H.out.hg (by decide))
theorem new_no (r : Int) (w : World) (h : r < 1) : Calls Tryz.prog 8 #[.int .i64 r] w fun e w' => e = .returned (.tuple #[.pointer none, .int .i64 1]) ∧ w' = w := by
  go_enter Tryz.func8, Tryz.ntmps8
  go_wp2
  go_ret2
  exact ⟨rfl, rfl⟩
def sfZ (r : Int) : SfS := ⟨r, [], [], [], 0, 0, []⟩
theorem new_fs (r : Int) (w : World) : FsAt (((w.alloc (.map #[] 0)).alloc (.map #[] 0)).alloc (.cells #[.int .i64 r, .map (some w.heap.size), .map (some (w.heap.size + 1)), .slice none 0 0, .int .i64 0, .int .i64 0] 76)) (fun k => w.heap.size ≤ k ∧ k < w.heap.size + 3) (w.heap.size + 2) w.heap.size (w.heap.size + 1) (.slice none 0 0) (fun _ => 0) (fun _ => .slice none 0 0) (sfZ r) := by
  have e0 := heap_alloc_new w (.map #[] 0)
  have e1 := heap_alloc_new (w.alloc (.map #[] 0)) (.map #[] 0)
  have e2 := heap_alloc_new ((w.alloc (.map #[] 0)).alloc (.map #[] 0)) (.cells #[.int .i64 r, .map (some w.heap.size), .map (some (w.heap.size + 1)), .slice none 0 0, .int .i64 0, .int .i64 0] 76)
  have m0 := World.ownsMap_made w Tryz.prog 9 ptrE
  have m1 := World.ownsMap_made (w.alloc (.map #[] 0)) Tryz.prog 9 ptrE
  simp only [World.size_alloc] at e1 e2 m1
  refine ⟨fun k hk => by simp only [World.size_alloc]; omega, by omega, by omega, by omega, by omega, e2, SfMap.keep (w := w.alloc (.map #[] 0)) m0 ?_, SfMap.keep (w := (w.alloc (.map #[] 0)).alloc (.map #[] 0)) m1 ?_, GOwn.nil _ _ _, fun k hk => by simp [Value.ownBlock] at hk, ⟨?_, ?_, ?_, ?_, ?_, ?_⟩⟩
  · rw [Below.heap_alloc _ _ _ (by simp; omega), Below.heap_alloc _ _ _ (by simp)]
  · rw [Below.heap_alloc _ _ _ (by simp)]
  all_goals (intro i; intros; simp [sfZ] at *)
theorem sfWf_zero {r : Int} (h1 : 1 ≤ r) (h2 : r < 9223372036854775808) : SfWf (sfZ r) := by
  refine ⟨h1, h2, by simp [sfZ], by simp [sfZ], ?_, ?_, ?_, rfl, ?_, ?_⟩ <;> simp [sfZ]
theorem new_any (r : Int) (w : World) (h : 1 ≤ r) : Calls Tryz.prog 8 #[.int .i64 r] w fun e w' => e = .returned (.tuple #[.pointer (some ⟨w.heap.size + 2, 0, none⟩), .int .i64 0]) ∧
    FsAt w' (fun k => w.heap.size ≤ k ∧ k < w.heap.size + 3) (w.heap.size + 2) w.heap.size (w.heap.size + 1) (.slice none 0 0) (fun _ => 0) (fun _ => .slice none 0 0) (sfZ r) ∧ Below w.heap.size w w' ∧ w'.heap.size = w.heap.size + 3 := by
  have h2 : ¬ r < 1 := by omega
  have hmm := @run_makeMap Tryz.prog
  go_enter Tryz.func8, Tryz.ntmps8
  go_wp2
  go_ret2
  exact ⟨rfl, new_fs r w, ((((Below.refl _ _).alloc (Nat.le_refl _) _).alloc (by simp) _).alloc (by simp; omega) _), by simp⟩
end Go.Proofs.YtilbffgpniomcaaGreatDoor
