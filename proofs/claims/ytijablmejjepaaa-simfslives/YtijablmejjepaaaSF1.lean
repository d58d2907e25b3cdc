/- A file system in memory. -/
import Derived.Test.YtijablmejjepaaaSF0
import Derived.Test.YtijablmejjepaaaGAp
import Derived.Test.YtijablmejjepaaaRT
namespace Go.Proofs.Ytijablmejjepaaa
open Go.RowKit Go.Maps

/-- Files: each in a block of its own, its bytes in another one. -/
structure SfFl (w : World) (O : Nat → Prop) (bl : Nat → Nat) (vs : Nat → Value) (fls : List (List UInt8 × Nat)) : Prop where
  ob : ∀ i, i < fls.length → O (bl i)
  nd : ∀ i j, i < fls.length → j < fls.length → bl i = bl j → i = j
  hf : ∀ i f, fls[i]? = some f → w.heap[bl i]? = some (.cells #[vs i, .int .i64 (f.2 : Int)] 69)
  hb : ∀ i f, fls[i]? = some f → BOwn w (vs i) f.1
  ov : ∀ i, i < fls.length → ∀ k, (vs i).ownBlock = some k → O k
  nv : ∀ i j, i < fls.length → j < fls.length → ∀ k, (vs i).ownBlock = some k → (vs j).ownBlock = some k → i = j
/-- An act's cells. -/
def sfAv (bl : Nat → Nat) (a : SfA) : List Value := [.string ⟨a.gone.toArray⟩, .string ⟨a.name.toArray⟩, sfPv bl a.file]
structure FsAt (w : World) (O : Nat → Prop) (g m1 m2 : Nat) (pv : Value) (bl : Nat → Nat) (vs : Nat → Value) (s : SfS) : Prop where
  lt : ∀ k, O k → k < w.heap.size
  og : O g
  o1 : O m1
  o2 : O m2
  ne : m1 ≠ m2
  hg : w.heap[g]? = some (.cells #[.int .i64 s.room, .map (some m1), .map (some m2), pv, .int .i64 s.left, .int .i64 s.fault] 43)
  h1 : SfMap w m1 bl s.dir
  h2 : SfMap w m2 bl s.old
  hp : GOwn w 71 3 pv s.pend.length (s.pend.flatMap (sfAv bl))
  op : ∀ k, pv.ownBlock = some k → O k
  fl : SfFl w O bl vs s.fls
theorem ty_ne {w : World} {a b : Nat} {x y : Array Value} {T U : TypeId} {f f' : Nat × Nat} (ha : w.heap[a]? = some (.cells x T f)) (hb : w.heap[b]? = some (.cells y U f')) (h : T ≠ U) : a ≠ b := by
  intro e; subst e; rw [ha] at hb; simp at hb; exact h hb.2.1
theorem map_ne {w : World} {a b : Nat} {x : Array Value} {T : TypeId} {f : Nat × Nat} {es : Array MapEntry} {c : Nat} (ha : w.heap[a]? = some (.cells x T f)) (hb : w.heap[b]? = some (.map es c)) : a ≠ b := by
  intro e; subst e; rw [ha] at hb; cases hb
theorem SfFl.keep {w w' : World} {O O' : Nat → Prop} {bl : Nat → Nat} {vs : Nat → Value} {fls : List (List UInt8 × Nat)} (h : SfFl w O bl vs fls) (hO : ∀ k, O k → O' k)
    (hk : ∀ k (cur : Array Value) (T : TypeId), O k → w.heap[k]? = some (.cells cur T (0, 0)) → T = 69 ∨ T = 5 → w'.heap[k]? = w.heap[k]?) : SfFl w' O' bl vs fls := by
  refine ⟨fun i hi => hO _ (h.ob i hi), h.nd, fun i f hf => ?_, fun i f hf => ?_, fun i hi k hk' => hO _ (h.ov i hi k hk'), h.nv⟩
  · have hi := (List.getElem?_eq_some_iff.1 hf).1
    exact (hk _ _ _ (h.ob i hi) (h.hf i f hf) (.inl rfl)).trans (h.hf i f hf)
  · have hi := (List.getElem?_eq_some_iff.1 hf).1
    refine (h.hb i f hf).keep fun k hk' => ?_
    obtain ⟨cur, hc⟩ := (h.hb i f hf).block hk'
    exact hk k cur _ (h.ov i hi k hk') hc (.inr rfl)
/-- All its blocks stand. -/
theorem FsAt.keep {w w' : World} {O : Nat → Prop} {g m1 m2 : Nat} {pv : Value} {bl : Nat → Nat} {vs : Nat → Value} {s : SfS} (h : FsAt w O g m1 m2 pv bl vs s) (hk : ∀ k, O k → w'.heap[k]? = w.heap[k]?) (hs : w.heap.size ≤ w'.heap.size) : FsAt w' O g m1 m2 pv bl vs s :=
  ⟨fun k hk' => Nat.lt_of_lt_of_le (h.lt k hk') hs, h.og, h.o1, h.o2, h.ne, (hk _ h.og).trans h.hg, h.h1.keep (hk _ h.o1), h.h2.keep (hk _ h.o2), h.hp.keep (fun k hk' => hk k (h.op k hk')), h.op, h.fl.keep (fun _ q => q) (fun k _ _ ho _ _ => hk k ho)⟩
theorem FsAt.wider {w : World} {O O' : Nat → Prop} {g m1 m2 : Nat} {pv : Value} {bl : Nat → Nat} {vs : Nat → Value} {s : SfS} (h : FsAt w O g m1 m2 pv bl vs s) (hO : ∀ k, O k → O' k) (hl : ∀ k, O' k → k < w.heap.size) : FsAt w O' g m1 m2 pv bl vs s :=
  ⟨hl, hO _ h.og, hO _ h.o1, hO _ h.o2, h.ne, h.hg, h.h1, h.h2, h.hp, fun k hk => hO k (h.op k hk), h.fl.keep hO (fun _ _ _ _ _ _ => rfl)⟩
theorem FsAt.pvT {w : World} {O : Nat → Prop} {g m1 m2 : Nat} {pv : Value} {bl : Nat → Nat} {vs : Nat → Value} {s : SfS} (h : FsAt w O g m1 m2 pv bl vs s) {k : Nat} (hk : pv.ownBlock = some k) : ∃ cur, w.heap[k]? = some (.cells cur 71 (0, 0)) := h.hp.block hk
/-- The block of the struct is written. -/
theorem FsAt.setG {w w' : World} {O O' : Nat → Prop} {g m1 m2 : Nat} {pv : Value} {bl : Nat → Nat} {vs : Nat → Value} {s : SfS} (h : FsAt w O g m1 m2 pv bl vs s) (hO : ∀ k, O k → O' k) (hl : ∀ k, O' k → k < w'.heap.size)
    (hk : ∀ k, O k → k ≠ g → some k ≠ pv.ownBlock → w'.heap[k]? = w.heap[k]?) {pv' : Value} {P : List SfA} {L F : Int}
    (hg : w'.heap[g]? = some (.cells #[.int .i64 s.room, .map (some m1), .map (some m2), pv', .int .i64 L, .int .i64 F] 43))
    (hp : GOwn w' 71 3 pv' P.length (P.flatMap (sfAv bl))) (op : ∀ k, pv'.ownBlock = some k → O' k) : FsAt w' O' g m1 m2 pv' bl vs { s with pend := P, left := L, fault := F } := by
  have hpn : ∀ {k : Nat} {cur : Array Value} {T : TypeId} {fr : Nat × Nat}, w.heap[k]? = some (.cells cur T fr) → T ≠ 71 → some k ≠ pv.ownBlock := by
    intro k cur T fr hc hT e
    obtain ⟨c, hc'⟩ := h.pvT e.symm
    rw [hc] at hc'
    simp at hc'
    exact hT hc'.2.1
  have hmn : ∀ {k : Nat} {es : Array MapEntry} {c : Nat}, w.heap[k]? = some (.map es c) → some k ≠ pv.ownBlock := by
    intro k es c hc e
    obtain ⟨c', hc'⟩ := h.pvT e.symm
    rw [hc] at hc'
    cases hc'
  obtain ⟨e1, c1, q1⟩ := h.h1.isMap
  obtain ⟨e2, c2, q2⟩ := h.h2.isMap
  refine ⟨hl, hO _ h.og, hO _ h.o1, hO _ h.o2, h.ne, hg, h.h1.keep (hk _ h.o1 (map_ne h.hg q1).symm (hmn q1)), h.h2.keep (hk _ h.o2 (map_ne h.hg q2).symm (hmn q2)), hp, op, h.fl.keep hO fun k cur T ho hc hT => ?_⟩
  refine hk k ho (ty_ne hc h.hg ?_) (hpn hc ?_)
  · rcases hT with rfl | rfl <;> decide
  · rcases hT with rfl | rfl <;> decide
/-- The directory is written. -/
theorem FsAt.set1 {w w' : World} {O : Nat → Prop} {g m1 m2 : Nat} {pv : Value} {bl : Nat → Nat} {vs : Nat → Value} {s : SfS} (h : FsAt w O g m1 m2 pv bl vs s) (hs : w.heap.size ≤ w'.heap.size)
    (hk : ∀ k, O k → k ≠ m1 → w'.heap[k]? = w.heap[k]?) {l : List (List UInt8 × Nat)} (hm : SfMap w' m1 bl l) : FsAt w' O g m1 m2 pv bl vs { s with dir := l } := by
  obtain ⟨e1, c1, q1⟩ := h.h1.isMap
  refine ⟨fun k hk' => Nat.lt_of_lt_of_le (h.lt k hk') hs, h.og, h.o1, h.o2, h.ne, (hk _ h.og (map_ne h.hg q1)).trans h.hg, hm, h.h2.keep (hk _ h.o2 h.ne.symm), h.hp.keep fun k hk' => ?_, h.op, h.fl.keep (fun _ q => q) fun k cur T ho hc _ => hk k ho (map_ne hc q1)⟩
  obtain ⟨cur, hc⟩ := h.pvT hk'
  exact hk k (h.op k hk') (map_ne hc q1)
theorem FsAt.set2 {w w' : World} {O : Nat → Prop} {g m1 m2 : Nat} {pv : Value} {bl : Nat → Nat} {vs : Nat → Value} {s : SfS} (h : FsAt w O g m1 m2 pv bl vs s) (hs : w.heap.size ≤ w'.heap.size)
    (hk : ∀ k, O k → k ≠ m2 → w'.heap[k]? = w.heap[k]?) {l : List (List UInt8 × Nat)} (hm : SfMap w' m2 bl l) : FsAt w' O g m1 m2 pv bl vs { s with old := l } := by
  obtain ⟨e1, c1, q1⟩ := h.h2.isMap
  refine ⟨fun k hk' => Nat.lt_of_lt_of_le (h.lt k hk') hs, h.og, h.o1, h.o2, h.ne, (hk _ h.og (map_ne h.hg q1)).trans h.hg, h.h1.keep (hk _ h.o1 h.ne), hm, h.hp.keep fun k hk' => ?_, h.op, h.fl.keep (fun _ q => q) fun k cur T ho hc _ => hk k ho (map_ne hc q1)⟩
  obtain ⟨cur, hc⟩ := h.pvT hk'
  exact hk k (h.op k hk') (map_ne hc q1)
def updF {α : Type} (f : Nat → α) (i : Nat) (x : α) (j : Nat) : α := if j = i then x else f j
theorem updF_same {α : Type} (f : Nat → α) (i : Nat) (x : α) : updF f i x i = x := by simp [updF]
theorem updF_ne {α : Type} (f : Nat → α) {i j : Nat} (x : α) (h : j ≠ i) : updF f i x j = f j := by simp [updF, h]
def SfS.setF (s : SfS) (i : Nat) (f : List UInt8 × Nat) : SfS := { s with fls := s.fls.set i f }
/-- A file is written. -/
theorem FsAt.setI {w w' : World} {O O' : Nat → Prop} {g m1 m2 : Nat} {pv : Value} {bl : Nat → Nat} {vs : Nat → Value} {s : SfS} (h : FsAt w O g m1 m2 pv bl vs s) (hO : ∀ k, O k → O' k) (hl : ∀ k, O' k → k < w'.heap.size) {i : Nat} (hi : i < s.fls.length)
    (hk : ∀ k, O k → k ≠ bl i → some k ≠ (vs i).ownBlock → w'.heap[k]? = w.heap[k]?) {v : Value} {f : List UInt8 × Nat} (hf : w'.heap[bl i]? = some (.cells #[v, .int .i64 (f.2 : Int)] 69)) (hb : BOwn w' v f.1)
    (hv : ∀ k, v.ownBlock = some k → (vs i).ownBlock = some k ∨ (w.heap.size ≤ k ∧ O' k)) : FsAt w' O' g m1 m2 pv bl (updF vs i v) (s.setF i f) := by
  have hfi := h.fl.hf i _ (List.getElem?_eq_getElem hi)
  have hbi := h.fl.hb i _ (List.getElem?_eq_getElem hi)
  have hvn : ∀ {k : Nat} {cur : Array Value} {T : TypeId} {fr : Nat × Nat}, w.heap[k]? = some (.cells cur T fr) → T ≠ 5 → some k ≠ (vs i).ownBlock := by
    intro k cur T fr hc hT e
    obtain ⟨c, hc'⟩ := hbi.block e.symm
    rw [hc] at hc'
    simp at hc'
    exact hT hc'.2.1
  have hmn : ∀ {k : Nat} {es : Array MapEntry} {c : Nat}, w.heap[k]? = some (.map es c) → some k ≠ (vs i).ownBlock := by
    intro k es c hc e
    obtain ⟨c', hc'⟩ := hbi.block e.symm
    rw [hc] at hc'
    cases hc'
  obtain ⟨e1, c1, q1⟩ := h.h1.isMap
  obtain ⟨e2, c2, q2⟩ := h.h2.isMap
  have hvo : ∀ k, v.ownBlock = some k → O' k := fun k hk' => (hv k hk').elim (fun q => hO _ (h.fl.ov i hi k q)) (fun q => q.2)
  have hlen : (s.setF i f).fls.length = s.fls.length := by simp [SfS.setF]
  refine ⟨hl, hO _ h.og, hO _ h.o1, hO _ h.o2, h.ne, (hk _ h.og (ty_ne h.hg hfi (by decide)) (hvn h.hg (by decide))).trans h.hg, h.h1.keep (hk _ h.o1 (map_ne hfi q1).symm (hmn q1)), h.h2.keep (hk _ h.o2 (map_ne hfi q2).symm (hmn q2)), h.hp.keep fun k hk' => ?_, fun k hk' => hO k (h.op k hk'), ?_⟩
  · obtain ⟨cur, hc⟩ := h.pvT hk'
    exact hk k (h.op k hk') (ty_ne hc hfi (by decide)) (hvn hc (by decide))
  · refine ⟨fun j hj => hO _ (h.fl.ob j (hlen ▸ hj)), fun a b ha hb' => h.fl.nd a b (hlen ▸ ha) (hlen ▸ hb'), fun j fj hj => ?_, fun j fj hj => ?_, fun j hj k hk' => ?_, fun a b ha hb' k hk1 hk2 => ?_⟩
    · by_cases e : j = i
      · subst e
        have : fj = f := by simp [SfS.setF, hi] at hj; exact hj.symm
        subst this
        rw [updF_same]; exact hf
      · have hj' : s.fls[j]? = some fj := by simpa [SfS.setF, List.getElem?_set, Ne.symm e] using hj
        have hjl := (List.getElem?_eq_some_iff.1 hj').1
        rw [updF_ne _ _ e]
        have h0 := h.fl.hf j fj hj'
        exact (hk _ (h.fl.ob j hjl) (fun q => e (h.fl.nd j i hjl hi q)) (hvn h0 (by decide))).trans h0
    · by_cases e : j = i
      · subst e
        have : fj = f := by simp [SfS.setF, hi] at hj; exact hj.symm
        subst this
        rw [updF_same]; exact hb
      · have hj' : s.fls[j]? = some fj := by simpa [SfS.setF, List.getElem?_set, Ne.symm e] using hj
        have hjl := (List.getElem?_eq_some_iff.1 hj').1
        rw [updF_ne _ _ e]
        refine (h.fl.hb j fj hj').keep fun k hk' => ?_
        obtain ⟨cur, hc⟩ := (h.fl.hb j fj hj').block hk'
        exact hk k (h.fl.ov j hjl k hk') (ty_ne hc hfi (by decide)) (fun q => e (h.fl.nv j i hjl hi k hk' q.symm))
    · by_cases e : j = i
      · subst e; rw [updF_same] at hk'; exact hvo k hk'
      · rw [updF_ne _ _ e] at hk'; exact hO _ (h.fl.ov j (hlen ▸ hj) k hk')
    · have hal : a < s.fls.length := hlen ▸ ha
      have hbl : b < s.fls.length := hlen ▸ hb'
      have hx : ∀ a, a < s.fls.length → a ≠ i → (vs a).ownBlock = some k → v.ownBlock = some k → False := fun a ha' ea h1 h2 => by
        rcases hv k h2 with q | ⟨q, _⟩
        · exact ea (h.fl.nv a i ha' hi k h1 q)
        · have := h.lt k (h.fl.ov a ha' k h1); omega
      by_cases ea : a = i
      · by_cases eb : b = i
        · omega
        · subst ea
          rw [updF_same] at hk1
          rw [updF_ne _ _ eb] at hk2
          exact (hx b hbl eb hk2 hk1).elim
      · rw [updF_ne _ _ ea] at hk1
        by_cases eb : b = i
        · subst eb
          rw [updF_same] at hk2
          exact (hx a hal ea hk1 hk2).elim
        · rw [updF_ne _ _ eb] at hk2
          exact h.fl.nv a b hal hbl k hk1 hk2
end Go.Proofs.Ytijablmejjepaaa
