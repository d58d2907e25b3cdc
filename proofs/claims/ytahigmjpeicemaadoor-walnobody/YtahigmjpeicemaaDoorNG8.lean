/- SF1 SS SF2 SF3, joined. -/
import Derived.Test.YtahigmjpeicemaaDoorNG1
import Derived.Test.YtahigmjpeicemaaDoorNG7
import Derived.Deep.MidRow
import Derived.RegionTactic
import Derived.BigRegion
import Derived.Deep.QuietTactic
import Derived.BigQuiet
import Derived.OwnWalk
/- A file system in memory. -/
namespace Go.Proofs.YtahigmjpeicemaaDoor
open Go.RowKit Go.Maps

/-- Files: each in a block of its own, its bytes in another one. -/
structure SfFl (w : World) (O : Nat → Prop) (bl : Nat → Nat) (vs : Nat → Value) (fls : List (List UInt8 × Nat)) : Prop where
  ob : ∀ i, i < fls.length → O (bl i)
  nd : ∀ i j, i < fls.length → j < fls.length → bl i = bl j → i = j
  hf : ∀ i f, fls[i]? = some f → w.heap[bl i]? = some (.cells #[vs i, .int .i64 (f.2 : Int)] 109)
  hb : ∀ i f, fls[i]? = some f → BOwn w (vs i) f.1
  ov : ∀ i, i < fls.length → ∀ k, (vs i).ownBlock = some k → O k
  nv : ∀ i j, i < fls.length → j < fls.length → ∀ k, (vs i).ownBlock = some k → (vs j).ownBlock = some k → i = j
/-- An act's cells. -/
def sfAv (bl : Nat → Nat) (a : SfA) : List Value := [.string ⟨a.gone.toArray⟩, .string ⟨a.name.toArray⟩, sfPv bl a.file]
structure FsAt (w : World) (O : Nat → Prop) (g m1 m2 : Nat) (pv : Value) (bl : Nat → Nat) (vs : Nat → Value) (s : SfS) : Prop where
  lt : ∀ k, O k → k < w.heap.size
  og : O g
  o1 : O m1
  o2 : O m2
  ne : m1 ≠ m2
  hg : w.heap[g]? = some (.cells #[.int .i64 s.room, .map (some m1), .map (some m2), pv, .int .i64 s.left, .int .i64 s.fault] 92)
  h1 : SfMap w m1 bl s.dir
  h2 : SfMap w m2 bl s.old
  hp : GOwn w 111 3 pv s.pend.length (s.pend.flatMap (sfAv bl))
  op : ∀ k, pv.ownBlock = some k → O k
  fl : SfFl w O bl vs s.fls
theorem ty_ne {w : World} {a b : Nat} {x y : Array Value} {T U : TypeId} {f f' : Nat × Nat} (ha : w.heap[a]? = some (.cells x T f)) (hb : w.heap[b]? = some (.cells y U f')) (h : T ≠ U) : a ≠ b := by
  intro e; subst e; rw [ha] at hb; simp at hb; exact h hb.2.1
theorem map_ne {w : World} {a b : Nat} {x : Array Value} {T : TypeId} {f : Nat × Nat} {es : Array MapEntry} {c : Nat} (ha : w.heap[a]? = some (.cells x T f)) (hb : w.heap[b]? = some (.map es c)) : a ≠ b := by
  intro e; subst e; rw [ha] at hb; cases hb
theorem SfFl.keep {w w' : World} {O O' : Nat → Prop} {bl : Nat → Nat} {vs : Nat → Value} {fls : List (List UInt8 × Nat)} (h : SfFl w O bl vs fls) (hO : ∀ k, O k → O' k)
    (hk : ∀ k (cur : Array Value) (T : TypeId), O k → w.heap[k]? = some (.cells cur T (0, 0)) → T = 109 ∨ T = 5 → w'.heap[k]? = w.heap[k]?) : SfFl w' O' bl vs fls := by
  refine ⟨fun i hi => hO _ (h.ob i hi), h.nd, fun i f hf => ?_, fun i f hf => ?_, fun i hi k hk' => hO _ (h.ov i hi k hk'), h.nv⟩
  · have hi := (List.getElem?_eq_some_iff.1 hf).1
    exact (hk _ _ _ (h.ob i hi) (h.hf i f hf) (.inl rfl)).trans (h.hf i f hf)
  · have hi := (List.getElem?_eq_some_iff.1 hf).1
    refine (h.hb i f hf).keep fun k hk' => ?_
    obtain ⟨cur, hc⟩ := (h.hb i f hf).block hk'
    exact hk k cur _ (h.ov i hi k hk') hc (.inr rfl)
/-- All its blocks stand. -/
theorem FsAt.keep {w w' : World} {O : Nat → Prop} {g m1 m2 : Nat} {pv : Value} {bl : Nat → Nat} {vs : Nat → Value} {s : SfS} (h : FsAt w O g m1 m2 pv bl vs s) (hk : ∀ k, O k → w'.heap[k]? = w.heap[k]?) (hs : w.heap.size ≤ w'.heap.size) : FsAt w' O g m1 m2 pv bl vs s :=
  ⟨fun k hk' => Nat.lt_of_lt_of_le (h.lt k hk') hs, h.og, h.o1, h.o2, h.ne, (hk _ h.og).trans h.hg, h.h1.keep (hk _ h.o1), h.h2.keep (hk _ h.o2), h.hp.keep (fun k hk' => hk k (h.op k hk')), h.op, h.fl.keep (fun _ q => q) (fun k _ _ ho _ _ => hk k ho)⟩
theorem FsAt.wider {w : World} {O O' : Nat → Prop} {g m1 m2 : Nat} {pv : Value} {bl : Nat → Nat} {vs : Nat → Value} {s : SfS} (h : FsAt w O g m1 m2 pv bl vs s) (hO : ∀ k, O k → O' k) (hl : ∀ k, O' k → k < w.heap.size) : FsAt w O' g m1 m2 pv bl vs s :=
  ⟨hl, hO _ h.og, hO _ h.o1, hO _ h.o2, h.ne, h.hg, h.h1, h.h2, h.hp, fun k hk => hO k (h.op k hk), h.fl.keep hO (fun _ _ _ _ _ _ => rfl)⟩
theorem FsAt.pvT {w : World} {O : Nat → Prop} {g m1 m2 : Nat} {pv : Value} {bl : Nat → Nat} {vs : Nat → Value} {s : SfS} (h : FsAt w O g m1 m2 pv bl vs s) {k : Nat} (hk : pv.ownBlock = some k) : ∃ cur, w.heap[k]? = some (.cells cur 111 (0, 0)) := h.hp.block hk
/-- The block of the struct is written. -/
theorem FsAt.setG {w w' : World} {O O' : Nat → Prop} {g m1 m2 : Nat} {pv : Value} {bl : Nat → Nat} {vs : Nat → Value} {s : SfS} (h : FsAt w O g m1 m2 pv bl vs s) (hO : ∀ k, O k → O' k) (hl : ∀ k, O' k → k < w'.heap.size)
    (hk : ∀ k, O k → k ≠ g → some k ≠ pv.ownBlock → w'.heap[k]? = w.heap[k]?) {pv' : Value} {P : List SfA} {L F : Int}
    (hg : w'.heap[g]? = some (.cells #[.int .i64 s.room, .map (some m1), .map (some m2), pv', .int .i64 L, .int .i64 F] 92))
    (hp : GOwn w' 111 3 pv' P.length (P.flatMap (sfAv bl))) (op : ∀ k, pv'.ownBlock = some k → O' k) : FsAt w' O' g m1 m2 pv' bl vs { s with pend := P, left := L, fault := F } := by
  have hpn : ∀ {k : Nat} {cur : Array Value} {T : TypeId} {fr : Nat × Nat}, w.heap[k]? = some (.cells cur T fr) → T ≠ 111 → some k ≠ pv.ownBlock := by
    intro k cur T fr hc hT e
    obtain ⟨c, hc'⟩ := h.pvT e.symm
    rw [hc] at hc'
    simp at hc'
    exact hT hc'.2.1
  have hmn : ∀ {k : Nat} {es : Array MapEntry} {c : Nat}, w.heap[k]? = some (.map es c) → some k ≠ pv.ownBlock := by
    intro k es c hc e
    obtain ⟨c', hc'⟩ := h.pvT e.symm
    rw [hc] at hc'
    cases hc'
  obtain ⟨e1, c1, q1⟩ := h.h1.isMap
  obtain ⟨e2, c2, q2⟩ := h.h2.isMap
  refine ⟨hl, hO _ h.og, hO _ h.o1, hO _ h.o2, h.ne, hg, h.h1.keep (hk _ h.o1 (map_ne h.hg q1).symm (hmn q1)), h.h2.keep (hk _ h.o2 (map_ne h.hg q2).symm (hmn q2)), hp, op, h.fl.keep hO fun k cur T ho hc hT => ?_⟩
  refine hk k ho (ty_ne hc h.hg ?_) (hpn hc ?_)
  · rcases hT with rfl | rfl <;> decide
  · rcases hT with rfl | rfl <;> decide
/-- The directory is written. -/
theorem FsAt.set1 {w w' : World} {O : Nat → Prop} {g m1 m2 : Nat} {pv : Value} {bl : Nat → Nat} {vs : Nat → Value} {s : SfS} (h : FsAt w O g m1 m2 pv bl vs s) (hs : w.heap.size ≤ w'.heap.size)
    (hk : ∀ k, O k → k ≠ m1 → w'.heap[k]? = w.heap[k]?) {l : List (List UInt8 × Nat)} (hm : SfMap w' m1 bl l) : FsAt w' O g m1 m2 pv bl vs { s with dir := l } := by
  obtain ⟨e1, c1, q1⟩ := h.h1.isMap
  refine ⟨fun k hk' => Nat.lt_of_lt_of_le (h.lt k hk') hs, h.og, h.o1, h.o2, h.ne, (hk _ h.og (map_ne h.hg q1)).trans h.hg, hm, h.h2.keep (hk _ h.o2 h.ne.symm), h.hp.keep fun k hk' => ?_, h.op, h.fl.keep (fun _ q => q) fun k cur T ho hc _ => hk k ho (map_ne hc q1)⟩
  obtain ⟨cur, hc⟩ := h.pvT hk'
  exact hk k (h.op k hk') (map_ne hc q1)
theorem FsAt.set2 {w w' : World} {O : Nat → Prop} {g m1 m2 : Nat} {pv : Value} {bl : Nat → Nat} {vs : Nat → Value} {s : SfS} (h : FsAt w O g m1 m2 pv bl vs s) (hs : w.heap.size ≤ w'.heap.size)
    (hk : ∀ k, O k → k ≠ m2 → w'.heap[k]? = w.heap[k]?) {l : List (List UInt8 × Nat)} (hm : SfMap w' m2 bl l) : FsAt w' O g m1 m2 pv bl vs { s with old := l } := by
  obtain ⟨e1, c1, q1⟩ := h.h2.isMap
  refine ⟨fun k hk' => Nat.lt_of_lt_of_le (h.lt k hk') hs, h.og, h.o1, h.o2, h.ne, (hk _ h.og (map_ne h.hg q1)).trans h.hg, h.h1.keep (hk _ h.o1 h.ne), hm, h.hp.keep fun k hk' => ?_, h.op, h.fl.keep (fun _ q => q) fun k cur T ho hc _ => hk k ho (map_ne hc q1)⟩
  obtain ⟨cur, hc⟩ := h.pvT hk'
  exact hk k (h.op k hk') (map_ne hc q1)
def updF {α : Type} (f : Nat → α) (i : Nat) (x : α) (j : Nat) : α := if j = i then x else f j
theorem updF_same {α : Type} (f : Nat → α) (i : Nat) (x : α) : updF f i x i = x := by simp [updF]
theorem updF_ne {α : Type} (f : Nat → α) {i j : Nat} (x : α) (h : j ≠ i) : updF f i x j = f j := by simp [updF, h]
def SfS.setF (s : SfS) (i : Nat) (f : List UInt8 × Nat) : SfS := { s with fls := s.fls.set i f }
/-- A file is written. -/
theorem FsAt.setI {w w' : World} {O O' : Nat → Prop} {g m1 m2 : Nat} {pv : Value} {bl : Nat → Nat} {vs : Nat → Value} {s : SfS} (h : FsAt w O g m1 m2 pv bl vs s) (hO : ∀ k, O k → O' k) (hl : ∀ k, O' k → k < w'.heap.size) {i : Nat} (hi : i < s.fls.length)
    (hk : ∀ k, O k → k ≠ bl i → some k ≠ (vs i).ownBlock → w'.heap[k]? = w.heap[k]?) {v : Value} {f : List UInt8 × Nat} (hf : w'.heap[bl i]? = some (.cells #[v, .int .i64 (f.2 : Int)] 109)) (hb : BOwn w' v f.1)
    (hv : ∀ k, v.ownBlock = some k → (vs i).ownBlock = some k ∨ (w.heap.size ≤ k ∧ O' k)) : FsAt w' O' g m1 m2 pv bl (updF vs i v) (s.setF i f) := by
  have hfi := h.fl.hf i _ (List.getElem?_eq_getElem hi)
  have hbi := h.fl.hb i _ (List.getElem?_eq_getElem hi)
  have hvn : ∀ {k : Nat} {cur : Array Value} {T : TypeId} {fr : Nat × Nat}, w.heap[k]? = some (.cells cur T fr) → T ≠ 5 → some k ≠ (vs i).ownBlock := by
    intro k cur T fr hc hT e
    obtain ⟨c, hc'⟩ := hbi.block e.symm
    rw [hc] at hc'
    simp at hc'
    exact hT hc'.2.1
  have hmn : ∀ {k : Nat} {es : Array MapEntry} {c : Nat}, w.heap[k]? = some (.map es c) → some k ≠ (vs i).ownBlock := by
    intro k es c hc e
    obtain ⟨c', hc'⟩ := hbi.block e.symm
    rw [hc] at hc'
    cases hc'
  obtain ⟨e1, c1, q1⟩ := h.h1.isMap
  obtain ⟨e2, c2, q2⟩ := h.h2.isMap
  have hvo : ∀ k, v.ownBlock = some k → O' k := fun k hk' => (hv k hk').elim (fun q => hO _ (h.fl.ov i hi k q)) (fun q => q.2)
  have hlen : (s.setF i f).fls.length = s.fls.length := by simp [SfS.setF]
  refine ⟨hl, hO _ h.og, hO _ h.o1, hO _ h.o2, h.ne, (hk _ h.og (ty_ne h.hg hfi (by decide)) (hvn h.hg (by decide))).trans h.hg, h.h1.keep (hk _ h.o1 (map_ne hfi q1).symm (hmn q1)), h.h2.keep (hk _ h.o2 (map_ne hfi q2).symm (hmn q2)), h.hp.keep fun k hk' => ?_, fun k hk' => hO k (h.op k hk'), ?_⟩
  · obtain ⟨cur, hc⟩ := h.pvT hk'
    exact hk k (h.op k hk') (ty_ne hc hfi (by decide)) (hvn hc (by decide))
  · refine ⟨fun j hj => hO _ (h.fl.ob j (hlen ▸ hj)), fun a b ha hb' => h.fl.nd a b (hlen ▸ ha) (hlen ▸ hb'), fun j fj hj => ?_, fun j fj hj => ?_, fun j hj k hk' => ?_, fun a b ha hb' k hk1 hk2 => ?_⟩
    · by_cases e : j = i
      · subst e
        have : fj = f := by simp [SfS.setF, hi] at hj; exact hj.symm
        subst this
        rw [updF_same]; exact hf
      · have hj' : s.fls[j]? = some fj := by simpa [SfS.setF, List.getElem?_set, Ne.symm e] using hj
        have hjl := (List.getElem?_eq_some_iff.1 hj').1
        rw [updF_ne _ _ e]
        have h0 := h.fl.hf j fj hj'
        exact (hk _ (h.fl.ob j hjl) (fun q => e (h.fl.nd j i hjl hi q)) (hvn h0 (by decide))).trans h0
    · by_cases e : j = i
      · subst e
        have : fj = f := by simp [SfS.setF, hi] at hj; exact hj.symm
        subst this
        rw [updF_same]; exact hb
      · have hj' : s.fls[j]? = some fj := by simpa [SfS.setF, List.getElem?_set, Ne.symm e] using hj
        have hjl := (List.getElem?_eq_some_iff.1 hj').1
        rw [updF_ne _ _ e]
        refine (h.fl.hb j fj hj').keep fun k hk' => ?_
        obtain ⟨cur, hc⟩ := (h.fl.hb j fj hj').block hk'
        exact hk k (h.fl.ov j hjl k hk') (ty_ne hc hfi (by decide)) (fun q => e (h.fl.nv j i hjl hi k hk' q.symm))
    · by_cases e : j = i
      · subst e; rw [updF_same] at hk'; exact hvo k hk'
      · rw [updF_ne _ _ e] at hk'; exact hO _ (h.fl.ov j (hlen ▸ hj) k hk')
    · have hal : a < s.fls.length := hlen ▸ ha
      have hbl : b < s.fls.length := hlen ▸ hb'
      have hx : ∀ a, a < s.fls.length → a ≠ i → (vs a).ownBlock = some k → v.ownBlock = some k → False := fun a ha' ea h1 h2 => by
        rcases hv k h2 with q | ⟨q, _⟩
        · exact ea (h.fl.nv a i ha' hi k h1 q)
        · have := h.lt k (h.fl.ov a ha' k h1); omega
      by_cases ea : a = i
      · by_cases eb : b = i
        · omega
        · subst ea
          rw [updF_same] at hk1
          rw [updF_ne _ _ eb] at hk2
          exact (hx b hbl eb hk2 hk1).elim
      · rw [updF_ne _ _ ea] at hk1
        by_cases eb : b = i
        · subst eb
          rw [updF_same] at hk2
          exact (hx a hal ea hk1 hk2).elim
        · rw [updF_ne _ _ eb] at hk2
          exact h.fl.nv a b hal hbl k hk1 hk2
end Go.Proofs.YtahigmjpeicemaaDoor

/- A struct is stored: the world behind it, by name. -/
namespace Go.Proofs.YtahigmjpeicemaaDoor
open Go.RowKit

/-- W is w, but for some cells of one block. -/
structure StW (w W : World) (g off : Nat) (cur : Array Value) (T : TypeId) (vs : List Value) : Prop where
  b : ∀ lo, lo ≤ g → Below lo w W
  o : ∀ k, k ≠ g → W.heap[k]? = w.heap[k]?
  c : ∃ cur', W.heap[g]? = some (.cells cur' T) ∧ cur'.size = cur.size ∧ (∀ k, k < off ∨ off + vs.length ≤ k → cur'[k]? = cur[k]?) ∧ ∀ i (hi : i < vs.length), cur'[off + i]? = some vs[i]
theorem stW_cells (g : Nat) (T : TypeId) : ∀ (vs : List Value) (off : Nat) (w : World) (cur : Array Value), w.heap[g]? = some (.cells cur T) → off + vs.length ≤ cur.size → StW w (w.setCells g off vs) g off cur T vs
  | [], off, w, cur, hg, _ => ⟨fun lo _ => Below.refl _ _, fun _ _ => rfl, ⟨cur, hg, rfl, fun _ _ => rfl, fun i hi => by simp at hi⟩⟩
  | v :: r, off, w, cur, hg, hl => by
    have h1 := heap_setCell_same w g off cur T v hg
    have ih := stW_cells g T r (off + 1) (w.setCell ⟨g, off, none⟩ v) (cur.setIfInBounds off v) h1 (by simp at hl ⊢; omega)
    have e : w.setCells g off (v :: r) = (w.setCell ⟨g, off, none⟩ v).setCells g (off + 1) r := rfl
    rw [e]
    obtain ⟨cur', c1, c2, c3, c4⟩ := ih.c
    refine ⟨fun lo hlo => ((Below.refl _ _).setCell hlo _).trans (ih.b lo hlo), fun k hk => (ih.o k hk).trans (Below.heap_setCell _ _ _ _ hk), ⟨cur', c1, by simpa using c2, fun k hk => ?_, fun i hi => ?_⟩⟩
    · simp at hk
      rw [c3 k (by omega), Array.getElem?_setIfInBounds_ne (by omega)]
    · cases i with
      | zero =>
        have hs : off < cur.size := by simp at hl; omega
        rw [Nat.add_zero, c3 off (.inl (by omega))]
        simp [hs]
      | succ i =>
        have := c4 i (by simpa using hi)
        rw [show off + (i + 1) = off + 1 + i by omega, this]
        simp
section
variable {ops : Array Oper} {rest : List Oper} {op : Oper} {a : Act} {w : World} {Q : Exit → Act → World → Prop}
theorem there_of {g off n : Nat} {cur : Array Value} {T : TypeId} (hg : w.heap[g]? = some (.cells cur T)) (hl : off + n ≤ cur.size) : w.there g off n := fun j hj => ⟨by
  have : off + j < cur.size := by omega
  simp [World.cell?, hg, this], by simp [World.frozen?, hg]⟩
theorem wp_storeN {K : Act → World → Prop} (ty : TypeId) (x y : Operand) (ho : op.op = .store ty x y) (g off : Nat) (vs : List Value) (hx : a.eval x = .pointer (some ⟨g, off, none⟩)) (hy : a.eval y = .agg vs.toArray)
    (cur : Array Value) (T : TypeId) (hg : w.heap[g]? = some (.cells cur T)) (hl : off + vs.length ≤ cur.size) (hi : (Tryd.prog.info? ty).map (·.size) = some vs.length) (h1 : vs.toArray.all (·.oneCell') = true)
    (h : ∀ W, StW w W g off cur T vs → K (a.put op.dst undef) W) : op.wp Tryd.prog a w K Q :=
  wp_store_mid ty x y ho g off vs.toArray hx hy (there_of hg (by simpa using hl)) (by simpa using hi) h1 (h _ (stW_cells g T vs off w cur hg hl))
theorem wpList_storeN (hgd : op.guard = none) (ty : TypeId) (x y : Operand) (ho : op.op = .store ty x y) (g off : Nat) (vs : List Value) (hx : a.eval x = .pointer (some ⟨g, off, none⟩)) (hy : a.eval y = .agg vs.toArray)
    (cur : Array Value) (T : TypeId) (hg : w.heap[g]? = some (.cells cur T)) (hl : off + vs.length ≤ cur.size) (hi : (Tryd.prog.info? ty).map (·.size) = some vs.length) (h1 : vs.toArray.all (·.oneCell') = true)
    (h : ∀ W, StW w W g off cur T vs → wpList Tryd.prog ops Q rest (a.put op.dst undef) W) : wpList Tryd.prog ops Q (op :: rest) a w :=
  wpList_plain hgd fun _ hK => wp_storeN ty x y ho g off vs hx hy cur T hg hl hi h1 (fun W hW => hK _ _ (h W hW))
/-- The walk stands still here. -/
structure Stop (p : Prop) : Prop where
  out : p
theorem stop_store (ty : TypeId) (x y : Operand) (_ho : op.op = .store ty x y) (h : Stop (wpList Tryd.prog ops Q (op :: rest) a w)) : wpList Tryd.prog ops Q (op :: rest) a w := h.out
theorem Stop.of {p : Prop} (h : p) : Stop p := ⟨h⟩
end
end Go.Proofs.YtahigmjpeicemaaDoor

/- A file system's calls, plainly; its small ones in memory. -/
namespace Go.Proofs.YtahigmjpeicemaaDoor
open Go.RowKit Go.Maps

def sfOkC (c : UInt8) : Bool := (decide (97 ≤ c.toNat) && decide (c.toNat ≤ 122)) || (decide (48 ≤ c.toNat) && decide (c.toNat ≤ 57)) || (c.toNat == 46) || (c.toNat == 45)
def sfName (s : List UInt8) : Bool := decide (1 ≤ s.length) && decide (s.length ≤ 32) && s.all sfOkC
def sfPlan (s : SfS) : Int × SfS := if s.fault = 0 then (0, s) else if 0 < s.left then (0, { s with left := s.left - 1 }) else (s.fault, { s with fault := 0 })
def sfChange (s : SfS) (a : SfA) : Int × SfS := if (sfPlan s).1 = 0 then (0, { (sfPlan s).2 with dir := sfDo (sfPlan s).2.dir a, pend := (sfPlan s).2.pend ++ [a] }) else sfPlan s
def sfNew (s : SfS) : SfS := { s with fls := s.fls ++ [([], 0)] }
def sfCreate (s : SfS) (n : List UInt8) : Int × SfS := if sfName n = false then (1, s) else if (sfLook n s.dir).isSome = true then (80, s) else if 256 ≤ s.dir.length then (81, s) else sfChange (sfNew s) ⟨[], n, some s.fls.length⟩
def sfUsed (s : SfS) : Nat := (s.dir.map fun p => (s.fl p.2).1.length).sum
def sfAppend (s : SfS) (n b : List UInt8) : Int × SfS := match sfLook n s.dir with
  | none => (4, s)
  | some i => if 1048576 < (s.fl i).1.length + b.length then (2, s) else if s.room < ((sfUsed s + b.length : Nat) : Int) then (81, s) else
    if (sfPlan s).1 = 0 then (0, (sfPlan s).2.setF i ((s.fl i).1 ++ b, (s.fl i).2)) else sfPlan s
def sfSync (s : SfS) (n : List UInt8) : Int × SfS := match sfLook n s.dir with
  | none => (4, s)
  | some i => if (sfPlan s).1 = 0 then (0, (sfPlan s).2.setF i ((s.fl i).1, (s.fl i).1.length)) else sfPlan s
def sfRename (s : SfS) (n m : List UInt8) : Int × SfS := if sfName m = false then (1, s) else match sfLook n s.dir with
  | none => (4, s)
  | some i => sfChange s ⟨n, m, some i⟩
def sfRemove (s : SfS) (n : List UInt8) : Int × SfS := match sfLook n s.dir with
  | none => (4, s)
  | some _ => sfChange s ⟨n, [], none⟩
def sfSettle (s : SfS) (k : Nat) : SfS := { s with old := (s.pend.take k).foldl sfDo s.old, pend := [] }
def sfSyncDir (s : SfS) : Int × SfS := if (sfPlan s).1 = 0 then (0, sfSettle (sfPlan s).2 s.pend.length) else sfPlan s
def sfCut (f : List UInt8 × Nat) (keep : Int) : List UInt8 × Nat := (f.1.take (f.2 + min (max keep 0).toNat (f.1.length - f.2)), f.2 + min (max keep 0).toNat (f.1.length - f.2))
def sfCuts : List (List UInt8 × Nat) → List Int → List (List UInt8 × Nat) → List (List UInt8 × Nat)
  | [], _, fls => fls
  | p :: r, ks, fls => sfCuts r ks.tail (fls.set p.2 (sfCut (fls.getD p.2 ([], 0)) (ks.headD 0)))
def sfCrash (s : SfS) (n : Int) (ks : List Int) : SfS :=
  { sfSettle s (max n 0).toNat with dir := (sfSettle s (max n 0).toNat).old, fls := sfCuts (sfSettle s (max n 0).toNat).old ks s.fls, fault := 0 }
def sfFail (s : SfS) (n e : Int) : Int × SfS := if e ≠ 81 ∧ e ≠ 82 then (1, s) else if n < 0 then (0, { s with fault := 0 }) else (0, { s with left := n, fault := e })
/-- What every file system is. -/
structure SfWf (s : SfS) : Prop where
  r1 : 1 ≤ s.room
  r2 : s.room < 9223372036854775808
  l1 : -9223372036854775808 ≤ s.left
  l2 : s.left < 9223372036854775808
  di : ∀ p ∈ s.dir, p.2 < s.fls.length ∧ p.1.length ≤ 32
  oi : ∀ p ∈ s.old, p.2 < s.fls.length ∧ p.1.length ≤ 32
  pi : ∀ a ∈ s.pend, (∀ i, a.file = some i → i < s.fls.length) ∧ a.gone.length ≤ 32 ∧ a.name.length ≤ 32
  ap : s.dir = s.pend.foldl sfDo s.old
  ln : ∀ k, ((s.pend.take k).foldl sfDo s.old).length ≤ 256
  sy : ∀ (i : Nat) (f : List UInt8 × Nat), s.fls[i]? = some f → f.2 ≤ f.1.length ∧ f.1.length ≤ 1048576

theorem made_nil (w : World) : Calls Tryd.prog 51 #[.pointer none] w fun e w' => e = .returned (.bool false) ∧ w' = w := by
  go_enter Tryd.func51, Tryd.ntmps51
  go_wp2
  go_ret
  exact ⟨rfl, rfl⟩
theorem made_zero {g : Nat} (w : World) (h : w.cell? ⟨g, 0, none⟩ = some (.int .i64 0)) : Calls Tryd.prog 51 #[.pointer (some ⟨g, 0, none⟩)] w fun e w' => e = .returned (.bool false) ∧ w' = w := by
  go_enter Tryd.func51, Tryd.ntmps51
  go_wp2
  go_ret
  exact ⟨rfl, rfl⟩
theorem made_cell {g : Nat} {r : Int} (w : World) (h : w.cell? ⟨g, 0, none⟩ = some (.int .i64 r)) (h1 : 1 ≤ r) : Calls Tryd.prog 51 #[.pointer (some ⟨g, 0, none⟩)] w fun e w' => e = .returned (.bool true) ∧ w' = w := by
  have hd : (0 : Int) < r := by omega
  go_enter Tryd.func51, Tryd.ntmps51
  go_wp2
  go_ret
  exact ⟨rfl, rfl⟩
theorem FsAt.c0 {w : World} {O : Nat → Prop} {g m1 m2 : Nat} {pv : Value} {bl : Nat → Nat} {vs : Nat → Value} {s : SfS} (h : FsAt w O g m1 m2 pv bl vs s) : w.cell? ⟨g, 0, none⟩ = some (.int .i64 s.room) := by simp [World.cell?, h.hg]
theorem FsAt.c1 {w : World} {O : Nat → Prop} {g m1 m2 : Nat} {pv : Value} {bl : Nat → Nat} {vs : Nat → Value} {s : SfS} (h : FsAt w O g m1 m2 pv bl vs s) : w.cell? ⟨g, 1, none⟩ = some (.map (some m1)) := by simp [World.cell?, h.hg]
theorem FsAt.c2 {w : World} {O : Nat → Prop} {g m1 m2 : Nat} {pv : Value} {bl : Nat → Nat} {vs : Nat → Value} {s : SfS} (h : FsAt w O g m1 m2 pv bl vs s) : w.cell? ⟨g, 2, none⟩ = some (.map (some m2)) := by simp [World.cell?, h.hg]
theorem FsAt.c3 {w : World} {O : Nat → Prop} {g m1 m2 : Nat} {pv : Value} {bl : Nat → Nat} {vs : Nat → Value} {s : SfS} (h : FsAt w O g m1 m2 pv bl vs s) : w.cell? ⟨g, 3, none⟩ = some pv := by simp [World.cell?, h.hg]
theorem FsAt.c4 {w : World} {O : Nat → Prop} {g m1 m2 : Nat} {pv : Value} {bl : Nat → Nat} {vs : Nat → Value} {s : SfS} (h : FsAt w O g m1 m2 pv bl vs s) : w.cell? ⟨g, 4, none⟩ = some (.int .i64 s.left) := by simp [World.cell?, h.hg]
theorem FsAt.c5 {w : World} {O : Nat → Prop} {g m1 m2 : Nat} {pv : Value} {bl : Nat → Nat} {vs : Nat → Value} {s : SfS} (h : FsAt w O g m1 m2 pv bl vs s) : w.cell? ⟨g, 5, none⟩ = some (.int .i64 s.fault) := by simp [World.cell?, h.hg]
theorem FsAt.fz {w : World} {O : Nat → Prop} {g m1 m2 : Nat} {pv : Value} {bl : Nat → Nat} {vs : Nat → Value} {s : SfS} (h : FsAt w O g m1 m2 pv bl vs s) (k : Nat) : w.frozen? ⟨g, k, none⟩ = false := by simp [World.frozen?, h.hg]
theorem made_any {w : World} {O : Nat → Prop} {g m1 m2 : Nat} {pv : Value} {bl : Nat → Nat} {vs : Nat → Value} {s : SfS} (h : FsAt w O g m1 m2 pv bl vs s) (hw : SfWf s) :
    Calls Tryd.prog 51 #[.pointer (some ⟨g, 0, none⟩)] w fun e w' => e = .returned (.bool true) ∧ w' = w := made_cell w h.c0 hw.r1
theorem find_nil (n : List UInt8) (w : World) : Calls Tryd.prog 67 #[.pointer none, .string ⟨n.toArray⟩] w fun e w' => e = .returned (.tuple #[.pointer none, .int .i64 6]) ∧ w' = w := by
  go_enter Tryd.func67, Tryd.ntmps67
  go_wp2_with (go_at_call 51; refine (made_nil _).mono ?_; rintro e w' ⟨rfl, rfl⟩)
  go_ret2
  exact ⟨rfl, rfl⟩
theorem find_zero {g : Nat} (n : List UInt8) (w : World) (h : w.cell? ⟨g, 0, none⟩ = some (.int .i64 0)) : Calls Tryd.prog 67 #[.pointer (some ⟨g, 0, none⟩), .string ⟨n.toArray⟩] w fun e w' => e = .returned (.tuple #[.pointer none, .int .i64 6]) ∧ w' = w := by
  go_enter Tryd.func67, Tryd.ntmps67
  go_wp2_with (go_at_call 51; refine (made_zero _ h).mono ?_; rintro e w' ⟨rfl, rfl⟩)
  go_ret2
  exact ⟨rfl, rfl⟩
def sfFe : Option Nat → Int
  | none => 4
  | some _ => 0
theorem find_any {w : World} {O : Nat → Prop} {g m1 m2 : Nat} {pv : Value} {bl : Nat → Nat} {vs : Nat → Value} {s : SfS} (h : FsAt w O g m1 m2 pv bl vs s) (hw : SfWf s) (n : List UInt8) (hn : n.length ≤ maxLen) :
    Calls Tryd.prog 67 #[.pointer (some ⟨g, 0, none⟩), .string ⟨n.toArray⟩] w fun e w' => e = .returned (.tuple #[sfPv bl (sfLook n s.dir), .int .i64 (sfFe (sfLook n s.dir))]) ∧ w' = w := by
  have c0 := h.c0
  have c1 := h.c1
  have hr := h.h1.look n hn
  have h1 := hw.r1
  clear h hw
  cases hl : sfLook n s.dir with
  | none =>
    rw [hl] at hr
    simp only [sfPv] at hr
    go_enter Tryd.func67, Tryd.ntmps67
    go_wp2_with (go_at_call 51; refine (made_cell _ c0 h1).mono ?_; rintro e w' ⟨rfl, rfl⟩)
    go_ret2
    exact ⟨rfl, rfl⟩
  | some i =>
    rw [hl] at hr
    simp only [sfPv] at hr
    go_enter Tryd.func67, Tryd.ntmps67
    go_wp2_with (go_at_call 51; refine (made_cell _ c0 h1).mono ?_; rintro e w' ⟨rfl, rfl⟩)
    go_ret2
    exact ⟨rfl, rfl⟩
theorem cells_set {w : World} {g : Nat} {cs : Array Value} {T : TypeId} (h : w.heap[g]? = some (.cells cs T)) (k : Nat) (v : Value) : (w.setCell ⟨g, k, none⟩ v).heap[g]? = some (.cells (cs.setIfInBounds k v) T) := heap_setCell_same w g k cs T v h
theorem planned_any {w : World} {O : Nat → Prop} {g m1 m2 : Nat} {pv : Value} {bl : Nat → Nat} {vs : Nat → Value} {s : SfS} (h : FsAt w O g m1 m2 pv bl vs s) (hw : SfWf s) :
    Calls Tryd.prog 65 #[.pointer (some ⟨g, 0, none⟩)] w fun e w' => e = .returned (.int .i64 (sfPlan s).1) ∧ FsAt w' O g m1 m2 pv bl vs (sfPlan s).2 ∧ Onl O w w' ∧ w'.heap.size = w.heap.size := by
  have c4 := h.c4
  have c5 := h.c5
  have f4 := h.fz 4
  have f5 := h.fz 5
  unfold sfPlan
  by_cases h0 : s.fault = 0
  · rw [if_pos h0]
    rw [h0] at c5
    have H := (show Hid _ from h)
    clear h hw h0
    go_enter Tryd.func65, Tryd.ntmps65
    go_wp2
    go_ret
    exact ⟨rfl, H.out, Onl.refl _ _, rfl⟩
  · rw [if_neg h0]
    have h0' : (s.fault == 0) = false := by simpa using h0
    by_cases hl : 0 < s.left
    · rw [if_pos hl]
      have H := (show Hid _ from h)
      have l2 := hw.l2
      have hl' : 1 ≤ s.left := hl
      clear h hw
      go_enter Tryd.func65, Tryd.ntmps65
      go_wp2
      go_ret
      refine ⟨rfl, ?_, Onl.set (a := ⟨g, 4, none⟩) H.out.og _, by simp [World.setCell]⟩
      refine H.out.setG (fun _ q => q) (fun k q => by have := H.out.lt k q; simp [World.setCell]; exact this) (fun k _ hk _ => Below.heap_setCell _ _ _ _ hk) ?_ (H.out.hp.keep fun k hk => ?_) H.out.op
      · have := cells_set H.out.hg 4 (.int .i64 (s.left - 1)); simpa using this
      · obtain ⟨cur, hc⟩ := H.out.pvT hk
        exact Below.heap_setCell _ _ _ _ (ty_ne hc H.out.hg (by decide))
    · rw [if_neg hl]
      have H := (show Hid _ from h)
      clear h hw
      go_enter Tryd.func65, Tryd.ntmps65
      go_wp2
      go_ret
      refine ⟨rfl, ?_, Onl.set (a := ⟨g, 5, none⟩) H.out.og _, by simp [World.setCell]⟩
      refine H.out.setG (fun _ q => q) (fun k q => by have := H.out.lt k q; simp [World.setCell]; exact this) (fun k _ hk _ => Below.heap_setCell _ _ _ _ hk) ?_ (H.out.hp.keep fun k hk => ?_) H.out.op
      · have := cells_set H.out.hg 5 (.int .i64 0); simpa using this
      · obtain ⟨cur, hc⟩ := H.out.pvT hk
        exact Below.heap_setCell _ _ _ _ (ty_ne hc H.out.hg (by decide))
theorem new_no (r : Int) (w : World) (h : r < 1) : Calls Tryd.prog 20 #[.int .i64 r] w fun e w' => e = .returned (.tuple #[.pointer none, .int .i64 1]) ∧ w' = w := by
  go_enter Tryd.func20, Tryd.ntmps20
  go_wp2
  go_ret2
  exact ⟨rfl, rfl⟩
def sfZ (r : Int) : SfS := ⟨r, [], [], [], 0, 0, []⟩
theorem new_fs (r : Int) (w : World) : FsAt (((w.alloc (.map #[] 0)).alloc (.map #[] 0)).alloc (.cells #[.int .i64 r, .map (some w.heap.size), .map (some (w.heap.size + 1)), .slice none 0 0, .int .i64 0, .int .i64 0] 92)) (fun k => w.heap.size ≤ k ∧ k < w.heap.size + 3) (w.heap.size + 2) w.heap.size (w.heap.size + 1) (.slice none 0 0) (fun _ => 0) (fun _ => .slice none 0 0) (sfZ r) := by
  have e0 := heap_alloc_new w (.map #[] 0)
  have e1 := heap_alloc_new (w.alloc (.map #[] 0)) (.map #[] 0)
  have e2 := heap_alloc_new ((w.alloc (.map #[] 0)).alloc (.map #[] 0)) (.cells #[.int .i64 r, .map (some w.heap.size), .map (some (w.heap.size + 1)), .slice none 0 0, .int .i64 0, .int .i64 0] 92)
  have m0 := World.ownsMap_made w Tryd.prog 9 ptrE
  have m1 := World.ownsMap_made (w.alloc (.map #[] 0)) Tryd.prog 9 ptrE
  simp only [World.size_alloc] at e1 e2 m1
  refine ⟨fun k hk => by simp only [World.size_alloc]; omega, by omega, by omega, by omega, by omega, e2, SfMap.keep (w := w.alloc (.map #[] 0)) m0 ?_, SfMap.keep (w := (w.alloc (.map #[] 0)).alloc (.map #[] 0)) m1 ?_, GOwn.nil _ _ _, fun k hk => by simp [Value.ownBlock] at hk, ⟨?_, ?_, ?_, ?_, ?_, ?_⟩⟩
  · rw [Below.heap_alloc _ _ _ (by simp; omega), Below.heap_alloc _ _ _ (by simp)]
  · rw [Below.heap_alloc _ _ _ (by simp)]
  all_goals (intro i; intros; simp [sfZ] at *)
theorem sfWf_zero {r : Int} (h1 : 1 ≤ r) (h2 : r < 9223372036854775808) : SfWf (sfZ r) := by
  refine ⟨h1, h2, by simp [sfZ], by simp [sfZ], ?_, ?_, ?_, rfl, ?_, ?_⟩ <;> simp [sfZ]
theorem new_any (r : Int) (w : World) (h : 1 ≤ r) : Calls Tryd.prog 20 #[.int .i64 r] w fun e w' => e = .returned (.tuple #[.pointer (some ⟨w.heap.size + 2, 0, none⟩), .int .i64 0]) ∧
    FsAt w' (fun k => w.heap.size ≤ k ∧ k < w.heap.size + 3) (w.heap.size + 2) w.heap.size (w.heap.size + 1) (.slice none 0 0) (fun _ => 0) (fun _ => .slice none 0 0) (sfZ r) ∧ Below w.heap.size w w' ∧ w'.heap.size = w.heap.size + 3 := by
  have h2 : ¬ r < 1 := by omega
  have hmm := @run_makeMap Tryd.prog
  go_enter Tryd.func20, Tryd.ntmps20
  go_wp2
  go_ret2
  exact ⟨rfl, new_fs r w, ((((Below.refl _ _).alloc (Nat.le_refl _) _).alloc (by simp) _).alloc (by simp; omega) _), by simp⟩
end Go.Proofs.YtahigmjpeicemaaDoor

/- A file system: an act is done; names; a file is cut. -/
namespace Go.Proofs.YtahigmjpeicemaaDoor
open Go.RowKit Go.Maps

theorem sfDel_le (s : List UInt8) (l : List (List UInt8 × Nat)) : (sfDel s l).length ≤ l.length := List.length_filter_le _ _
theorem sfIns_len (x : List UInt8 × Nat) : ∀ l, (sfIns x l).length = l.length + 1
  | [] => rfl
  | y :: r => by
    unfold sfIns
    split
    · rfl
    · simp [sfIns_len x r]
theorem sfPut_le (x : List UInt8 × Nat) (l : List (List UInt8 × Nat)) : (sfPut x l).length ≤ l.length + 1 := by
  unfold sfPut; rw [sfIns_len]; have := sfDel_le x.1 l; omega
theorem sfDo_le (l : List (List UInt8 × Nat)) (a : SfA) : (sfDo l a).length ≤ l.length + 1 := by
  unfold sfDo
  split
  · have := sfDel_le a.gone l; omega
  · have := sfPut_le (a.name, ‹Nat›) (sfDel a.gone l); have := sfDel_le a.gone l; omega
theorem turned_only {w w' : World} {m : Nat} (h : w.mapTurned w' m) : Onl (fun k => k = m) w w' := by
  have g := h.grown
  exact ⟨g.os, g.tape, g.output, g.size, fun k hk ho => g.block k hk (fun e => ho (by simpa using e))⟩
theorem turned_cell {w w' : World} {m : Nat} (h : w.mapTurned w' m) {a : Addr} {v : Value} (hc : w.cell? a = some v) : w'.cell? a = some v := by
  obtain ⟨es, clock, es', clock', hb, rfl⟩ := h
  have hne : a.block ≠ m := by
    intro e
    simp [World.cell?, e, hb] at hc
  simp only [World.cell?, ChangeMaps.heap_setBlock_other hb _ hne] at hc ⊢
  exact hc
theorem do_any {w : World} {m : Nat} {bl : Nat → Nat} {l : List (List UInt8 × Nat)} (h : SfMap w m bl l) (hl : l.length < maxLen) (a : SfA) (h1 : a.gone.length ≤ maxLen) (h2 : a.name.length ≤ maxLen) :
    Calls Tryd.prog 80 #[.agg #[.string ⟨a.gone.toArray⟩, .string ⟨a.name.toArray⟩, sfPv bl a.file], .map (some m)] w fun e w' => e = .returned (.tuple #[]) ∧ SfMap w' m bl (sfDo l a) ∧ Onl (fun k => k = m) w w' := by
  obtain ⟨gone, name, file⟩ := a
  have k1 := keyS gone h1
  have k2 := keyS name h2
  have hm := SfMap.keep (w' := w.alloc (.cells #[.string ⟨gone.toArray⟩, .string ⟨name.toArray⟩, sfPv bl file] 111)) h (Below.heap_alloc _ _ _ (World.ownsMap.lt h))
  have hle := sfDel_le gone l
  cases file with
  | none =>
    simp only [sfPv] at hm ⊢
    go_enter Tryd.func80, Tryd.ntmps80
    go_wp2_with (at_delete; refine wpList_delete_own _ rfl _ _ 89 9 rfl 98 keyedS Tryd.underlying89 ptrE m l.length (sfD bl l) rfl hm _ _ rfl k1 ?_; intro w1 hown1 hturn1; have c2 := turned_cell hturn1 (a := ⟨w.heap.size, 2, none⟩) (v := .pointer none) (by simp))
    refine bodyPost_end (results_none rfl _ _ _) rfl ?_
    exact ⟨rfl, .of hown1 (sfD_del bl gone l), (Onl.alloc _).then (turned_only hturn1)⟩
  | some i =>
    simp only [sfPv] at hm ⊢
    go_enter Tryd.func80, Tryd.ntmps80
    go_wp2_with (first
      | (at_delete; refine wpList_delete_own _ rfl _ _ 89 9 rfl 98 keyedS Tryd.underlying89 ptrE m l.length (sfD bl l) rfl hm _ _ rfl k1 ?_; intro w1 hown1 hturn1; have c1 := turned_cell hturn1 (a := ⟨w.heap.size, 1, none⟩) (v := .string ⟨name.toArray⟩) (by simp); have c2 := turned_cell hturn1 (a := ⟨w.heap.size, 2, none⟩) (v := .pointer (some ⟨bl i, 0, none⟩)) (by simp))
      | (at_mapUpdate; refine wpList_mapUpdate_in _ rfl _ _ _ 89 rfl 9 98 keyedS Tryd.underlying89 ptrE m l.length _ rfl hown1 hl _ _ _ rfl rfl k2 (.lit (.int .i64 (bl i : Int))) [] rfl ?_; intro w2 hown2 hturn2))
    refine bodyPost_end (results_none rfl _ _ _) rfl ?_
    refine ⟨rfl, .of hown2 ?_, ((Onl.alloc _).then (turned_only hturn1)).then (turned_only hturn2)⟩
    rw [sfD_del]
    exact sfD_put bl (name, i) _
theorem sfOk_take {l : List UInt8} {k : Nat} (hk : k < l.length) (h : (l.take k).all sfOkC = true) (hc : sfOkC l[k] = true) : (l.take (k + 1)).all sfOkC = true := by
  rw [List.take_add_one, List.getElem?_eq_getElem hk, List.all_append, h]
  simpa using hc
theorem sfOk_no {l : List UInt8} {k : Nat} (hk : k < l.length) (hc : sfOkC l[k] = false) : l.all sfOkC = false := by
  cases h : l.all sfOkC with
  | false => rfl
  | true =>
    have := List.all_eq_true.1 h _ (List.getElem_mem hk)
    rw [hc] at this; cases this
theorem isName_b (s : ByteArray) (w : World) : Calls Tryd.prog 63 #[.string s] w fun e w' => e = .returned (.bool (sfName s.data.toList)) ∧ w' = w := by
  have hsl : s.data.toList.length = s.size := Array.length_toList
  by_cases h1 : s.size < 1
  · have e : sfName s.data.toList = false := by unfold sfName; rw [hsl, decide_eq_false (by omega : ¬ 1 ≤ s.size)]; rfl
    rw [e]
    clear hsl
    have h1' : ((s.size : Int) < 1) := by omega
    go_enter Tryd.func63, Tryd.ntmps63
    go_wp2
    go_ret
    exact ⟨rfl, rfl⟩
  · by_cases h2 : 32 < s.size
    · have e : sfName s.data.toList = false := by unfold sfName; rw [hsl, decide_eq_false (by omega : ¬ s.size ≤ 32), Bool.and_false]; rfl
      rw [e]
      clear hsl
      have h1' : ¬ ((s.size : Int) < 1) := by omega
      have h2' : ((32 : Int) < s.size) := by omega
      go_enter Tryd.func63, Tryd.ntmps63
      go_wp2
      go_ret
      exact ⟨rfl, rfl⟩
    · have h1' : ¬ ((s.size : Int) < 1) := by omega
      have h2' : ¬ ((32 : Int) < s.size) := by omega
      have HE : Hid (sfName s.data.toList = s.data.toList.all sfOkC) := by show sfName s.data.toList = _; unfold sfName; rw [hsl, decide_eq_true (by omega : 1 ≤ s.size), decide_eq_true (by omega : s.size ≤ 32)]; rfl
      have HL : Hid (s.data.toList.length = s.size) := hsl
      clear hsl
      go_enter Tryd.func63, Tryd.ntmps63
      go_wp2_with fail
      go_loopw [15] (fun i wr => ∃ k : Nat, i = .int .i64 (k : Int) ∧ k ≤ s.size ∧ Hid ((s.data.toList.take k).all sfOkC = true) ∧ wr = w) (fun i _ => s.size - (intOf i).toNat)
      case atStart => exact ⟨0, rfl, by omega, rfl, rfl⟩
      case round =>
        obtain ⟨k, rfl, hk, HA, rfl⟩ := hrel
        by_cases hlt : k < s.size
        · have hxe : s[k] = s.data.toList[k]'(by have := HL.out; omega) := rfl
          have HT : Hid (sfOkC s[k] = true → (s.data.toList.take (k + 1)).all sfOkC = true) := fun h => sfOk_take (by have := HL.out; omega) HA.out (hxe ▸ h)
          have HF : Hid (sfOkC s[k] = false → s.data.toList.all sfOkC = false) := fun h => sfOk_no (by have := HL.out; omega) (hxe ▸ h)
          clear hxe HA
          have hlt' : (k : Int) < (s.size : Int) := by omega
          generalize hx : s[k] = x at *
          have hall : (97 ≤ x.toNat ∧ x.toNat ≤ 122) ∨ (97 ≤ x.toNat ∧ 122 < x.toNat) ∨ (x.toNat < 97 ∧ 48 ≤ x.toNat ∧ x.toNat ≤ 57) ∨ (x.toNat < 97 ∧ 48 ≤ x.toNat ∧ 57 < x.toNat) ∨ (x.toNat < 48 ∧ x.toNat = 46) ∨ (x.toNat < 48 ∧ x.toNat ≠ 46 ∧ x.toNat = 45) ∨ (x.toNat < 48 ∧ x.toNat ≠ 46 ∧ x.toNat ≠ 45) := by omega
          rcases hall with h | h | h | h | h | h | h
          · have hb : sfOkC x = true := by unfold sfOkC; simp; omega
            have i0 : (97 : Int) ≤ (x.toNat : Int) := by omega
            have i1 : (x.toNat : Int) ≤ 122 := by omega
            have HN := (show Hid ((s.data.toList.take (k + 1)).all sfOkC = true) from HT.out hb)
            clear hb h HT HF
            go_wp2_with fail
            go_roundw
            case rel => exact ⟨k + 1, by go_num, by omega, HN, trivial⟩
            case measure => simp [intOf]; omega
          · have hb : sfOkC x = false := by unfold sfOkC; simp; omega
            have i0 : (97 : Int) ≤ (x.toNat : Int) := by omega
            have i1 : ¬ (x.toNat : Int) ≤ 122 := by omega
            have i2 : (48 : Int) ≤ (x.toNat : Int) := by omega
            have i3 : ¬ (x.toNat : Int) ≤ 57 := by omega
            have i4 : ((x.toNat : Int) == 46) = false := by simp; omega
            have i5 : ((x.toNat : Int) == 45) = false := by simp; omega
            have HN : Hid (sfName s.data.toList = false) := HE.out.trans (HF.out hb)
            clear hb h HT HF HE
            go_wp2_with fail
            go_ret
            exact ⟨by rw [HN.out]; rfl, rfl⟩
          · have hb : sfOkC x = true := by unfold sfOkC; simp; omega
            have i0 : ¬ (97 : Int) ≤ (x.toNat : Int) := by omega
            have i1 : (48 : Int) ≤ (x.toNat : Int) := by omega
            have i2 : (x.toNat : Int) ≤ 57 := by omega
            have HN := (show Hid ((s.data.toList.take (k + 1)).all sfOkC = true) from HT.out hb)
            clear hb h HT HF
            go_wp2_with fail
            go_roundw
            case rel => exact ⟨k + 1, by go_num, by omega, HN, trivial⟩
            case measure => simp [intOf]; omega
          · have hb : sfOkC x = false := by unfold sfOkC; simp; omega
            have i0 : ¬ (97 : Int) ≤ (x.toNat : Int) := by omega
            have i1 : (48 : Int) ≤ (x.toNat : Int) := by omega
            have i2 : ¬ (x.toNat : Int) ≤ 57 := by omega
            have i3 : ((x.toNat : Int) == 46) = false := by simp; omega
            have i4 : ((x.toNat : Int) == 45) = false := by simp; omega
            have HN : Hid (sfName s.data.toList = false) := HE.out.trans (HF.out hb)
            clear hb h HT HF HE
            go_wp2_with fail
            go_ret
            exact ⟨by rw [HN.out]; rfl, rfl⟩
          · have hb : sfOkC x = true := by unfold sfOkC; simp; omega
            have i0 : ¬ (97 : Int) ≤ (x.toNat : Int) := by omega
            have i1 : ¬ (48 : Int) ≤ (x.toNat : Int) := by omega
            have i2 : ((x.toNat : Int) == 46) = true := by simp; omega
            have HN := (show Hid ((s.data.toList.take (k + 1)).all sfOkC = true) from HT.out hb)
            clear hb h HT HF
            go_wp2_with fail
            go_roundw
            case rel => exact ⟨k + 1, by go_num, by omega, HN, trivial⟩
            case measure => simp [intOf]; omega
          · have hb : sfOkC x = true := by unfold sfOkC; simp; omega
            have i0 : ¬ (97 : Int) ≤ (x.toNat : Int) := by omega
            have i1 : ¬ (48 : Int) ≤ (x.toNat : Int) := by omega
            have i2 : ((x.toNat : Int) == 46) = false := by simp; omega
            have i3 : ((x.toNat : Int) == 45) = true := by simp; omega
            have HN := (show Hid ((s.data.toList.take (k + 1)).all sfOkC = true) from HT.out hb)
            clear hb h HT HF
            go_wp2_with fail
            go_roundw
            case rel => exact ⟨k + 1, by go_num, by omega, HN, trivial⟩
            case measure => simp [intOf]; omega
          · have hb : sfOkC x = false := by unfold sfOkC; simp; omega
            have i0 : ¬ (97 : Int) ≤ (x.toNat : Int) := by omega
            have i1 : ¬ (48 : Int) ≤ (x.toNat : Int) := by omega
            have i2 : ((x.toNat : Int) == 46) = false := by simp; omega
            have i3 : ((x.toNat : Int) == 45) = false := by simp; omega
            have HN : Hid (sfName s.data.toList = false) := HE.out.trans (HF.out hb)
            clear hb h HT HF HE
            go_wp2_with fail
            go_ret
            exact ⟨by rw [HN.out]; rfl, rfl⟩
        · have hlt' : ¬ (k : Int) < (s.size : Int) := by omega
          have hks : k = s.size := by omega
          have HN : Hid (sfName s.data.toList = true) := by
            show sfName s.data.toList = true
            rw [HE.out]
            have := HA.out
            rwa [List.take_of_length_le (by have := HL.out; omega)] at this
          clear hks HE HA HL
          go_wp2_with fail
          go_ret
          exact ⟨by rw [HN.out]; rfl, rfl⟩
theorem isName_any (s : List UInt8) (w : World) : Calls Tryd.prog 63 #[.string ⟨s.toArray⟩] w fun e w' => e = .returned (.bool (sfName s)) ∧ w' = w :=
  isName_b ⟨s.toArray⟩ w
end Go.Proofs.YtahigmjpeicemaaDoor
